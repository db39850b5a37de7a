/- Types with sizes on both sides; the relations between both sizes, lifted one by one; ParamPair of the program. -/
import Derived.Test.YtloecimlimoanaaGreatDoorLof
import Derived.Test.YtloecimlimoanaaGreatDoorRdf
import Derived.Lib.SliceRun
import Derived.Test.YtloecimlimoanaaGreatDoorReq
import Derived.OwnWalk
import Derived.Test.YtloecimlimoanaaGreatDoorRdpm
import Derived.Test.YtloecimlimoanaaGreatDoorWri
/- A type with a size on both sides. -/
namespace Go.Proofs.YtloecimlimoanaaGreatDoor
open Go.RowKit Go.ChangeMaps

def sz1 (m : Nat) : Nat → Option Nat := szs [(0, m)]

theorem sz1_sizes {m : Nat} (h1 : 1 ≤ m) (h3 : m ≤ 3) : Sizes (sz1 m) := by
  intro n c h
  unfold sz1 szs at h
  by_cases e : 0 = n
  · simp only [e, if_true] at h
    injection h with h
    omega
  · simp only [e, if_false, szs] at h
    cases h

theorem sz_made (w : World) (m : Nat) : ∃ w', (Instr.mapUpdate 89 (.map (some w.heap.size)) (.int .i64 0) (.int .i64 m)).run Tryz.prog (w.alloc (.map #[] 0)) = .ok () w' ∧ SzAt w' w.heap.size (sz1 m) ∧ Fr No w w' := by
  have h0 : SzAt (w.alloc (.map #[] 0)) w.heap.size (fun _ => none) := ⟨0, fun _ => none, MapAt.made w encI, fun _ => rfl⟩
  obtain ⟨w', h1, h2, h3⟩ := h0.store 0 m
  refine ⟨w', h1, ?_, ((Fr.refl No w).alloc _).then_ h3 (fun i hi h => by have h : i = w.heap.size := h; omega)⟩
  have e : sz1 m = fun i => if i = 0 then some m else none := by
    funext i
    unfold sz1 szs szs
    by_cases e : i = 0
    · subst e; simp
    · have : ¬ 0 = i := fun h => e h.symm
      simp [e, this]
  rw [e]
  exact h2

theorem CsAt.cellG {u ml mz mk c : Nat} {own : Nat → Prop} {L : Nat → Ty → Prop} {Q : World → Prop} {μ : Nat → Option Nat} {w w' : World} (hL : Lead u ml own L Q) (h : CsAt u ml mz mk c L Q μ w) {P : Nat} {ty0 : TypeId} {cs : Array Value} (hb : Blk w P ty0 cs) (h1 : ty0 ≠ 138) (h2 : ty0 ≠ 107) (hown : ¬ own P) (hf : Fr (One P) w w') : CsAt u ml mz mk c L Q μ w' := by
  have nt : ∀ g ty cs', Blk w g ty cs' → ty ≠ ty0 → ¬ One P g := fun g ty cs' hg ht e => by
    have e : g = P := e
    subst e
    exact ht (hg.eq hb).1
  obtain ⟨k, f, k1, k2⟩ := h.kn
  have hk : KeepS w w' := fun g cs' hg => hg.fr hf (nt _ _ _ hg (fun e => h2 e.symm))
  refine ⟨hL.keep w w' _ h.q hf (fun b e => by have e : b = P := e; rw [e]; exact hown), h.blk.fr hf (nt _ _ _ h.blk (fun e => h1 e.symm)), h.sz.fr hf ?_, k, f, k1.keep (hf.block mk k1.lt ?_), fun p v hp => ?_⟩
  · intro e
    have e : mz = P := e
    obtain ⟨_, _, ⟨es, clk, hm, _⟩, _⟩ := h.sz
    exact hb.ne_map hm e.symm
  · intro e
    have e : mk = P := e
    obtain ⟨es, clk, hm, _⟩ := k1
    exact hb.ne_map hm e.symm
  · obtain ⟨t, g1, g2⟩ := k2 p v hp
    exact ⟨t, g1, g2.keep hk⟩

/-- the other counter -/
theorem CsAt.other {u ml mz mk c mk1 : Nat} {own : Nat → Prop} {L : Nat → Ty → Prop} {Q : World → Prop} {μ : Nat → Option Nat} {w w' : World} (h : CsAt u ml mz mk c L Q μ w) (hO : CsOk ml mz mk own μ) (hm : ∀ b, Two ml mk1 b → ∃ es clk, w.heap[b]? = some (.map es clk)) (hq : Q w') (h1 : mk1 ≠ mz) (h2 : mk1 ≠ mk) (hf : Fr (Two ml mk1) w w') : CsAt u ml mz mk c L Q μ w' :=
  h.fr hf hq fun b hb => ⟨.inl (hm b hb), by
    rcases hb with e | e
    · rw [e]; exact fun e => hO.zl e.symm
    · rw [e]; exact h1, by
    rcases hb with e | e
    · rw [e]; exact fun e => hO.kl e.symm
    · rw [e]; exact h2⟩

/-- sizes in range -/
def In3 (m n : Int) : Prop := 1 ≤ m ∧ m ≤ 3 ∧ 1 ≤ n ∧ n ≤ 3

/-- where the parts of a type with sizes lie -/
structure PtD where
  q : Nat
  mm : Nat
  u : Nat
  ml : Nat
  ms : Nat
  c1 : Nat
  mz1 : Nat
  mk1 : Nat
  c2 : Nat
  mz2 : Nat
  mk2 : Nat
  kind : Nat
  gl : Nat
  gr : Nat
  ps : List Nat
  D : List Ty

def PtD.own (d : PtD) : Nat → Prop := fun b => b = d.q ∨ b = d.mm ∨ b ∈ d.ps ∨ b = d.u ∨ b = d.ml
def PtD.L (d : PtD) : Nat → Ty → Prop := fun p t => Has d.ps d.D t p
def PtD.Q (d : PtD) : World → Prop := Fresh d.q d.mm d.ps d.D d.u d.ml d.ms

structure PtIs (d : PtD) (w : World) (T : Nat) (t : Ty) (m n c c' lo hi : Nat) : Prop where
  blk : Blk w T 78 #[Ptr d.kind, .int .i64 0, .int .i64 m, .int .i64 n, Ptr d.c1, Ptr d.c2, Ptr d.gl, Ptr d.gr]
  has : Has d.ps d.D t d.kind
  cs1 : CsAt d.u d.ml d.mz1 d.mk1 d.c1 d.L d.Q (sz1 m) w
  cs2 : CsAt d.u d.ml d.mz2 d.mk2 d.c2 d.L d.Q (sz1 n) w
  ok1 : CsOk d.ml d.mz1 d.mk1 d.own (sz1 m)
  ok2 : CsOk d.ml d.mz2 d.mk2 d.own (sz1 n)
  kk : d.mk1 ≠ d.mk2
  z1 : d.mz1 ≠ d.mk2
  z2 : d.mz2 ≠ d.mk1
  sl : SetI w d.gl c
  sr : SetI w d.gr c'
  low : lo ≤ d.ml ∧ lo ≤ d.mk1 ∧ lo ≤ d.mk2
  high : (∀ b, d.own b → b < hi) ∧ d.mz1 < hi ∧ d.mz2 < hi ∧ d.mk1 < hi ∧ d.mk2 < hi

/-- what readParamType answers -/
def PtP (s : List UInt8) (m n : Int) (w : World) (e : Ending) (w' : World) : Prop :=
  Fr No w w' ∧ ((∃ (t : Ty) (T mN nN c c' : Nat) (d : PtD), Ty.Is s t ∧ OnlyA t ∧ m = mN ∧ n = nN ∧ In3 m n ∧ t.kn (sz1 mN) = some c ∧ t.kn (sz1 nN) = some c' ∧ e = .returned (Ptr T) ∧ PtIs d w' T t mN nN c c' w.heap.size w'.heap.size) ∨
    ((∀ (t : Ty) (mN nN c c' : Nat), Ty.Is s t → OnlyA t → m = mN → n = nN → In3 m n → t.kn (sz1 mN) = some c → t.kn (sz1 nN) = some c' → False) ∧ e = .returned (.pointer none)))

set_option maxRecDepth 100000 in
set_option maxHeartbeats 4000000 in
theorem readParamType_any (w : World) (s : List UInt8) (m n : Int) (hs : s.length ≤ maxLen) :
    Calls Tryz.prog 36 #[S s, .int .i64 m, .int .i64 n, .int .i64 3] w fun e w' => PtP s m n w e w' := by
  have hmm := @run_makeMap Tryz.prog
  have HMM := Lib.hid hmm
  clear hmm
  go_enter Tryz.func36, Tryz.ntmps36
  go_wp2_with fail
  refine (newPool_any _).mono ?_
  rintro e w1 ⟨rfl, rfl⟩
  have hP := pool_start w
  have hf0 : Fr No w ((w.alloc (.map #[] 0)).alloc (.cells #[.map (some w.heap.size)] 126)) := ((Fr.refl _ _).alloc _).alloc _
  generalize (w.alloc (.map #[] 0)).alloc (.cells #[.map (some w.heap.size)] 126) = w1 at hP hf0 ⊢
  go_wp2_with fail
  refine (readParam_any w1 _ _ [] [] s hP hs).mono ?_
  rintro e w2 ⟨ps, D, hP2, hg, hf, hor⟩
  have hfr : Fr No w w2 := hf0.then_ hf (fun i hi e => by unfold One at e; omega)
  clear hf hf0 hP hg
  rcases hor with ⟨t, p, hi, ha, hh, he⟩ | ⟨hno, he⟩
  · obtain rfl := he
    have HI := Lib.hid hi
    have HA := Lib.hid ha
    by_cases h3 : In3 m n
    · obtain ⟨m1, m2, n1, n2⟩ := h3
      obtain ⟨mN, rfl⟩ : ∃ mN : Nat, m = mN := ⟨m.toNat, by omega⟩
      obtain ⟨nN, rfl⟩ : ∃ nN : Nat, n = nN := ⟨n.toNat, by omega⟩
      have H3 : Hid (In3 (mN : Int) (nN : Int)) := ⟨m1, m2, n1, n2⟩
      have g1 : ¬ min (mN : Int) (nN : Int) < 1 := by omega
      have g2 : ¬ 3 < max (mN : Int) (nN : Int) := by omega
      have HF2 := Lib.hid hfr
      obtain ⟨u, hu⟩ : ∃ u, u = w2.heap.size + 2 := ⟨_, rfl⟩
      have hlow := hP2.low
      clear hi ha hfr
      go_wp2_with fail
      refine (newUnion_any _ _).mono ?_
      rintro e w3 ⟨rfl, hw3⟩
      have hf23 : Fr No w2 w3 := by subst hw3; exact (((Fr.refl No w2).alloc _).alloc _).alloc _
      have hFr3 : Fresh (w.heap.size + 1) w.heap.size ps D u w2.heap.size (w2.heap.size + 1) w3 := by
        refine ⟨hP2.fr hf23 (fun h => h) (fun h => h) (fun _ _ h => h), ?_, ?_⟩
        · subst hw3 hu; exact Blk.new_at _ _ _ (by simp)
        · subst hw3
          exact (MapAt.made w2 encI).keep ((Below.heap_alloc _ _ _ (by simp; omega)).trans (Below.heap_alloc _ _ _ (by simp)))
      rw [← hu]
      have HU : Hid (u = w2.heap.size + 2 ∧ w.heap.size < w2.heap.size ∧ w.heap.size + 1 < w2.heap.size) := ⟨hu, hlow.2.1, hlow.1⟩
      have HF3 := Lib.hid (HF2.out.trans hf23)
      have HFR3 := Lib.hid hFr3
      clear hw3 hP2 hu hlow hf23 hFr3 HF2
      go_wp2_with fail
      refine (readVar_any w3 _ _ ps D [97] HFR3.out.pool (by decide)).mono ?_
      rintro e w4 ⟨ps2, D2, hP4, hg4, hf4, hor2⟩
      obtain ⟨pa, hpa, rfl⟩ : ∃ pa, Has ps2 D2 (.v 0) pa ∧ e = .returned (Ptr pa) := by
        rcases hor2 with ⟨i, pa, hi25, hle, hpa, he⟩ | ⟨hno, _⟩
        · injection hle with hle
          have : i = 0 := (Ty.letter_inj (by decide) hi25 (show Ty.letter 0 = Ty.letter i from hle)).symm
          subst this
          exact ⟨pa, hpa, he⟩
        · exact absurd rfl (hno 0 (by decide))
      have hFr4 : Fresh (w.heap.size + 1) w.heap.size ps2 D2 u w2.heap.size (w2.heap.size + 1) w4 := ⟨hP4, HFR3.out.blk.fr hf4 (fun h => by have h : u = w.heap.size := h; have := HU.out; omega), HFR3.out.map.keep (hf4.block _ HFR3.out.map.lt (fun h => by have h : w2.heap.size = w.heap.size := h; have := HU.out; omega))⟩
      have hhp := hh.grew hg4
      have HF4 : Hid (Fr No w w4) := HF3.out.then_ hf4 (fun i hi h => by have h : i = w.heap.size := h; omega)
      obtain ⟨ya, yb, yc, hba, _⟩ := hpa.blk hP4
      have cpa : w4.cell? ⟨pa, 1, none⟩ = some (.int .i64 0) := (hba.cell 1).trans rfl
      have lpa := hba.lt
      have HFR4 := Lib.hid hFr4
      have HHP := Lib.hid hhp
      have HUL : Hid (w2.heap.size < w4.heap.size ∧ u < w4.heap.size) := ⟨hFr4.map.lt, hFr4.blk.lt⟩
      clear hP4 hg4 hf4 hor2 hpa hFr4 hhp hh hba HFR3 HF3
      have hfa : Fr No w4 (w4.alloc (.cells #[Ptr p, .int .i64 0, .int .i64 mN, .int .i64 nN, .pointer none, .pointer none, .pointer none, .pointer none] 78)) := (Fr.refl No w4).alloc _
      have hT5 : Blk (w4.alloc (.cells #[Ptr p, .int .i64 0, .int .i64 mN, .int .i64 nN, .pointer none, .pointer none, .pointer none, .pointer none] 78)) w4.heap.size 78 #[Ptr p, .int .i64 0, .int .i64 mN, .int .i64 nN, .pointer none, .pointer none, .pointer none, .pointer none] := Blk.new _ _ _
      have hz5 : (w4.alloc (.cells #[Ptr p, .int .i64 0, .int .i64 mN, .int .i64 nN, .pointer none, .pointer none, .pointer none, .pointer none] 78)).heap.size = w4.heap.size + 1 := by simp
      obtain ⟨w6, hrun1, hsz1, hf6⟩ := sz_made (w4.alloc (.cells #[Ptr p, .int .i64 0, .int .i64 mN, .int .i64 nN, .pointer none, .pointer none, .pointer none, .pointer none] 78)) mN
      rw [hz5] at hrun1 hsz1
      have hT6 := hT5.fr hf6 (fun h => h)
      have HF6 := Lib.hid (HF4.out.trans (hfa.trans hf6))
      have HFR6 := Lib.hid (HFR4.out.no (hfa.trans hf6))
      have HS6 := Lib.hid hsz1
      have HT6 := Lib.hid hT6
      have HZ6 : Hid (w4.heap.size + 1 < w6.heap.size) := by obtain ⟨k, f, h, _⟩ := hsz1; exact h.lt
      have hmm := HMM.out
      clear hfa hT5 hT6 hsz1 hf6 hz5
      go_wp2_with fail
      clear hrun1 hmm
      refine (newCounter_any _ _ _).mono ?_
      rintro e w7 ⟨rfl, hw7⟩
      obtain ⟨hcs1, hf7⟩ := cs_made (L := fun p t => Has ps2 D2 t p) (Q := Fresh (w.heap.size + 1) w.heap.size ps2 D2 u w2.heap.size (w2.heap.size + 1)) HS6.out (HFR6.out.no (by subst hw7; exact ((Fr.refl No w6).alloc _).alloc _)) hw7
      have hT7 := HT6.out.fr hf7 (fun h => h)
      have hown : ¬ (w4.heap.size = w.heap.size + 1 ∨ w4.heap.size = w.heap.size ∨ w4.heap.size ∈ ps2 ∨ w4.heap.size = u ∨ w4.heap.size = w2.heap.size) := by
        have h1 := HUL.out
        have h2 := HU.out
        have h3 := HFR4.out.pool.low
        rintro (h | h | h | h | h)
        · omega
        · omega
        · have := h3.2.2 _ h; omega
        · omega
        · omega
      have HOWN := Lib.hid hown
      have hf78 : Fr (One w4.heap.size) w7 (w7.setCell ⟨w4.heap.size, 4, none⟩ (Ptr (w6.heap.size + 1))) := (Fr.refl (One w4.heap.size) w7).setCell (p := ⟨w4.heap.size, 4, none⟩) (.inl rfl) _
      have hcs8 := hcs1.cellG (lead_fresh (w.heap.size + 1) w.heap.size ps2 D2 u w2.heap.size (w2.heap.size + 1)) hT7 (by decide) (by decide) hown hf78
      have hT8 := hT7.set_ 4 (Ptr (w6.heap.size + 1))
      have hz8 : (w7.setCell ⟨w4.heap.size, 4, none⟩ (Ptr (w6.heap.size + 1))).heap.size = w7.heap.size := by simp [World.setCell]
      have HZ7 : Hid (w6.heap.size + 1 < w7.heap.size) := hcs1.blk.lt
      have hf08 : Fr No w4 w7 → Fr No w4 (w7.setCell ⟨w4.heap.size, 4, none⟩ (Ptr (w6.heap.size + 1))) := fun h => h.setCell (p := ⟨w4.heap.size, 4, none⟩) (.inr (Nat.le_refl _)) _
      have HF8 : Hid (Fr No w (w7.setCell ⟨w4.heap.size, 4, none⟩ (Ptr (w6.heap.size + 1)))) := (HF6.out.trans hf7).setCell (p := ⟨w4.heap.size, 4, none⟩) (.inr HF4.out.size) _
      obtain ⟨w9, hrun2, hsz2, hf9⟩ := sz_made (w7.setCell ⟨w4.heap.size, 4, none⟩ (Ptr (w6.heap.size + 1))) nN
      rw [hz8] at hrun2 hsz2
      have hT9 := hT8.fr hf9 (fun h => h)
      have HC9 := Lib.hid (hcs8.no (lead_fresh (w.heap.size + 1) w.heap.size ps2 D2 u w2.heap.size (w2.heap.size + 1)) hf9)
      have HT9 := Lib.hid hT9
      have HF9 := Lib.hid (HF8.out.trans hf9)
      have HS9 := Lib.hid hsz2
      have HZ9 : Hid (w7.heap.size < w9.heap.size) := by obtain ⟨k, f, h, _⟩ := hsz2; exact h.lt
      have c0 : w7.cell? ⟨w4.heap.size, 4, none⟩ = some (.pointer none) := (hT7.cell 4).trans rfl
      have c1 : w7.cell? ⟨w4.heap.size, 1, none⟩ = some (.int .i64 0) := (hT7.cell 1).trans rfl
      have f0 := hT7.frozen 4
      have l0 := hT7.lt
      have hmm := HMM.out
      clear hcs1 hf7 hT7 hf78 hcs8 hT8 hz8 hf08 hsz2 hf9 hT9 hown hw7 lpa cpa
      go_wp2_with fail
      clear hrun2 hmm
      refine (newCounter_any _ _ _).mono ?_
      rintro e w10 ⟨rfl, hw10⟩
      obtain ⟨hcs2, hf10⟩ := cs_made (L := fun p t => Has ps2 D2 t p) (Q := Fresh (w.heap.size + 1) w.heap.size ps2 D2 u w2.heap.size (w2.heap.size + 1)) HS9.out (HC9.out.q.no (by subst hw10; exact ((Fr.refl No w9).alloc _).alloc _)) hw10
      have hcs1 := HC9.out.no (lead_fresh (w.heap.size + 1) w.heap.size ps2 D2 u w2.heap.size (w2.heap.size + 1)) hf10
      have hT10 := HT9.out.fr hf10 (fun h => h)
      have hf1011 : Fr (One w4.heap.size) w10 (w10.setCell ⟨w4.heap.size, 5, none⟩ (Ptr (w9.heap.size + 1))) := (Fr.refl (One w4.heap.size) w10).setCell (p := ⟨w4.heap.size, 5, none⟩) (.inl rfl) _
      have h1C := hcs1.cellG (lead_fresh (w.heap.size + 1) w.heap.size ps2 D2 u w2.heap.size (w2.heap.size + 1)) hT10 (by decide) (by decide) HOWN.out hf1011
      have h2C := hcs2.cellG (lead_fresh (w.heap.size + 1) w.heap.size ps2 D2 u w2.heap.size (w2.heap.size + 1)) hT10 (by decide) (by decide) HOWN.out hf1011
      have hT11 : Blk (w10.setCell ⟨w4.heap.size, 5, none⟩ (Ptr (w9.heap.size + 1))) w4.heap.size 78 #[Ptr p, .int .i64 0, .int .i64 mN, .int .i64 nN, Ptr (w6.heap.size + 1), Ptr (w9.heap.size + 1), .pointer none, .pointer none] := hT10.set_ 5 (Ptr (w9.heap.size + 1))
      have HF11 : Hid (Fr No w (w10.setCell ⟨w4.heap.size, 5, none⟩ (Ptr (w9.heap.size + 1)))) := (HF9.out.trans hf10).setCell (p := ⟨w4.heap.size, 5, none⟩) (.inr HF4.out.size) _
      have HORD : Hid (w.heap.size + 1 < w2.heap.size ∧ w2.heap.size < w4.heap.size ∧ u < w4.heap.size ∧ w4.heap.size + 1 < w6.heap.size ∧ w6.heap.size + 1 < w7.heap.size ∧ w7.heap.size < w9.heap.size ∧ w.heap.size ≤ w4.heap.size) := ⟨HU.out.2.2, HUL.out.1, HUL.out.2, HZ6.out, HZ7.out, HZ9.out, HF4.out.size⟩
      have hord := HORD.out
      have hpl := HFR4.out.pool.low
      have ownlt : ∀ b, ((fun b => b = w.heap.size + 1 ∨ b = w.heap.size ∨ b ∈ ps2 ∨ b = u ∨ b = w2.heap.size) b) → b < w4.heap.size := by
        rintro b (h | h | h | h | h)
        · omega
        · omega
        · exact hpl.2.2 _ h
        · omega
        · omega
      have O1 : CsOk w2.heap.size (w4.heap.size + 1) w6.heap.size (fun b => b = w.heap.size + 1 ∨ b = w.heap.size ∨ b ∈ ps2 ∨ b = u ∨ b = w2.heap.size) (sz1 mN) := ⟨by omega, by omega, by omega, fun h => by have := ownlt _ h; omega, sz1_sizes (by omega) (by omega)⟩
      have O2 : CsOk w2.heap.size w7.heap.size w9.heap.size (fun b => b = w.heap.size + 1 ∨ b = w.heap.size ∨ b ∈ ps2 ∨ b = u ∨ b = w2.heap.size) (sz1 nN) := ⟨by omega, by omega, by omega, fun h => by have := ownlt _ h; omega, sz1_sizes (by omega) (by omega)⟩
      have c0 : w10.cell? ⟨w4.heap.size, 5, none⟩ = some (.pointer none) := (hT10.cell 5).trans rfl
      have f0 := hT10.frozen 5
      have l0 := hT10.lt
      have SS : Hid (∀ w' t' cs, Blk w' w4.heap.size t' cs → t' = 78 → cs = #[Ptr p, .int .i64 0, .int .i64 mN, .int .i64 nN, Ptr (w6.heap.size + 1), Ptr (w9.heap.size + 1), .pointer none, .pointer none] → w'.cell? ⟨w4.heap.size, 4, none⟩ = some (Ptr (w6.heap.size + 1)) ∧ w'.cell? ⟨w4.heap.size, 5, none⟩ = some (Ptr (w9.heap.size + 1)) ∧ w'.cell? ⟨w4.heap.size, 6, none⟩ = some (.pointer none) ∧ w'.cell? ⟨w4.heap.size, 7, none⟩ = some (.pointer none) ∧ w'.frozen? ⟨w4.heap.size, 6, none⟩ = false ∧ w'.frozen? ⟨w4.heap.size, 7, none⟩ = false ∧ w4.heap.size < w'.heap.size) := fun w' t' cs h e1 e2 => by
        subst e1 e2
        exact ⟨(h.cell 4).trans rfl, (h.cell 5).trans rfl, (h.cell 6).trans rfl, (h.cell 7).trans rfl, h.frozen 6, h.frozen 7, h.lt⟩
      have A1 : Hid (Calls Tryz.prog 60 #[Ptr (w6.heap.size + 1), Ptr p] (w10.setCell ⟨w4.heap.size, 5, none⟩ (Ptr (w9.heap.size + 1))).drew fun e w' => ∃ a : Option Addr, e = .returned (.pointer a) ∧ Hid (SetV w' (sz1 mN) t (.pointer a) ∧ (CsAt u w2.heap.size (w4.heap.size + 1) w6.heap.size (w6.heap.size + 1) (fun p t => Has ps2 D2 t p) (Fresh (w.heap.size + 1) w.heap.size ps2 D2 u w2.heap.size (w2.heap.size + 1)) (sz1 mN)) w' ∧ (CsAt u w2.heap.size w7.heap.size w9.heap.size (w9.heap.size + 1) (fun p t => Has ps2 D2 t p) (Fresh (w.heap.size + 1) w.heap.size ps2 D2 u w2.heap.size (w2.heap.size + 1)) (sz1 nN)) w' ∧ Blk w' w4.heap.size 78 #[Ptr p, .int .i64 0, .int .i64 mN, .int .i64 nN, Ptr (w6.heap.size + 1), Ptr (w9.heap.size + 1), .pointer none, .pointer none] ∧ Fr No w w')) := by
        have hd := (Fr.refl No (w10.setCell ⟨w4.heap.size, 5, none⟩ (Ptr (w9.heap.size + 1)))).drew
        have h1D := h1C.no (lead_fresh (w.heap.size + 1) w.heap.size ps2 D2 u w2.heap.size (w2.heap.size + 1)) hd
        have h2D := h2C.no (lead_fresh (w.heap.size + 1) w.heap.size ps2 D2 u w2.heap.size (w2.heap.size + 1)) hd
        refine (ofs_any (lead_fresh (w.heap.size + 1) w.heap.size ps2 D2 u w2.heap.size (w2.heap.size + 1)) O1 t _ p h1D HHP.out).mono ?_
        rintro e w' ⟨v, rfl, hv, hc, hf⟩
        obtain ⟨a, rfl⟩ := hv.ptr
        have hm := h1D.maps (lead_fresh (w.heap.size + 1) w.heap.size ps2 D2 u w2.heap.size (w2.heap.size + 1))
        refine ⟨a, rfl, hv, hc, h2D.other O2 hm hc.q (by omega) (by omega) hf, (hT11.fr hd (fun h => h)).fr hf (fun h => by obtain ⟨es, clk, e⟩ := hm _ h; exact (hT11.fr hd (fun h => h)).ne_map e rfl), (HF11.out.trans hd).then_ hf (fun i hi h => ?_)⟩
        rcases h with h | h
        · omega
        · omega
      have B1 : Hid (∀ w12 a, (SetV w12 (sz1 mN) t (.pointer a) ∧ (CsAt u w2.heap.size (w4.heap.size + 1) w6.heap.size (w6.heap.size + 1) (fun p t => Has ps2 D2 t p) (Fresh (w.heap.size + 1) w.heap.size ps2 D2 u w2.heap.size (w2.heap.size + 1)) (sz1 mN)) w12 ∧ (CsAt u w2.heap.size w7.heap.size w9.heap.size (w9.heap.size + 1) (fun p t => Has ps2 D2 t p) (Fresh (w.heap.size + 1) w.heap.size ps2 D2 u w2.heap.size (w2.heap.size + 1)) (sz1 nN)) w12 ∧ Blk w12 w4.heap.size 78 #[Ptr p, .int .i64 0, .int .i64 mN, .int .i64 nN, Ptr (w6.heap.size + 1), Ptr (w9.heap.size + 1), .pointer none, .pointer none] ∧ Fr No w w12) → Calls Tryz.prog 60 #[Ptr (w9.heap.size + 1), Ptr p] w12 fun e w' => ∃ a' : Option Addr, e = .returned (.pointer a') ∧ Hid (SetV w' (sz1 mN) t (.pointer a) ∧ SetV w' (sz1 nN) t (.pointer a') ∧ (CsAt u w2.heap.size (w4.heap.size + 1) w6.heap.size (w6.heap.size + 1) (fun p t => Has ps2 D2 t p) (Fresh (w.heap.size + 1) w.heap.size ps2 D2 u w2.heap.size (w2.heap.size + 1)) (sz1 mN)) w' ∧ (CsAt u w2.heap.size w7.heap.size w9.heap.size (w9.heap.size + 1) (fun p t => Has ps2 D2 t p) (Fresh (w.heap.size + 1) w.heap.size ps2 D2 u w2.heap.size (w2.heap.size + 1)) (sz1 nN)) w' ∧ Blk w' w4.heap.size 78 #[Ptr p, .int .i64 0, .int .i64 mN, .int .i64 nN, Ptr (w6.heap.size + 1), Ptr (w9.heap.size + 1), .pointer none, .pointer none] ∧ Fr No w w')) := by
        rintro w12 a ⟨hv1, h1D, h2D, hT12, hf12⟩
        refine (ofs_any (lead_fresh (w.heap.size + 1) w.heap.size ps2 D2 u w2.heap.size (w2.heap.size + 1)) O2 t _ p h2D HHP.out).mono ?_
        rintro e w' ⟨v, rfl, hv, hc, hf⟩
        obtain ⟨a', rfl⟩ := hv.ptr
        have hm := h2D.maps (lead_fresh (w.heap.size + 1) w.heap.size ps2 D2 u w2.heap.size (w2.heap.size + 1))
        refine ⟨a', rfl, hv1.keep (KeepS.fr hf fun b hb => .inl (hm b hb)), hv, h1D.other O1 hm hc.q (by omega) (by omega) hf, hc, hT12.fr hf (fun h => by obtain ⟨es, clk, e⟩ := hm _ h; exact hT12.ne_map e rfl), hf12.then_ hf (fun i hi h => ?_)⟩
        rcases h with h | h
        · omega
        · omega
      have FIN : Hid (∀ (w13 w14 : World) (a a' : Option Addr), (SetV w13 (sz1 mN) t (.pointer a) ∧ SetV w13 (sz1 nN) t (.pointer a') ∧ (CsAt u w2.heap.size (w4.heap.size + 1) w6.heap.size (w6.heap.size + 1) (fun p t => Has ps2 D2 t p) (Fresh (w.heap.size + 1) w.heap.size ps2 D2 u w2.heap.size (w2.heap.size + 1)) (sz1 mN)) w13 ∧ (CsAt u w2.heap.size w7.heap.size w9.heap.size (w9.heap.size + 1) (fun p t => Has ps2 D2 t p) (Fresh (w.heap.size + 1) w.heap.size ps2 D2 u w2.heap.size (w2.heap.size + 1)) (sz1 nN)) w13 ∧ Blk w13 w4.heap.size 78 #[Ptr p, .int .i64 0, .int .i64 mN, .int .i64 nN, Ptr (w6.heap.size + 1), Ptr (w9.heap.size + 1), .pointer none, .pointer none] ∧ Fr No w w13) → w14 = (w13.setCell ⟨w4.heap.size, 6, none⟩ (.pointer a)).setCell ⟨w4.heap.size, 7, none⟩ (.pointer a') →
          (t.kn (sz1 mN) = none ∨ t.kn (sz1 nN) = none → PtP s mN nN w (.returned (.pointer none)) w14) ∧ (∀ c c', t.kn (sz1 mN) = some c → t.kn (sz1 nN) = some c' → PtP s mN nN w (.returned (Ptr w4.heap.size)) w14)) := by
        rintro w13 w14 a a' ⟨hv1, hv2, h1D, h2D, hT13, hf13⟩ e14
        have hfs : Fr (One w4.heap.size) w13 w14 := by rw [e14]; exact ((Fr.refl (One w4.heap.size) w13).setCell (p := ⟨w4.heap.size, 6, none⟩) (.inl rfl) _).setCell (p := ⟨w4.heap.size, 7, none⟩) (.inl rfl) _
        have hf14 : Fr No w w14 := hf13.then_ hfs (fun i hi h => by have h : i = w4.heap.size := h; omega)
        refine ⟨fun hn => ⟨hf14, .inr ⟨fun t' mN' nN' c c' h1 h2 h3 h4 _ h5 h6 => ?_, rfl⟩⟩, fun c c' hk1 hk2 => ?_⟩
        · have := h1.unique HI.out
          subst this
          have e1 : mN' = mN := by omega
          have e2 : nN' = nN := by omega
          subst e1 e2
          rcases hn with hn | hn
          · rw [hn] at h5; cases h5
          · rw [hn] at h6; cases h6
        · obtain ⟨gl, x, y, ea, hgl⟩ := hv1.some_ hk1
          obtain ⟨gr, x', y', ea', hgr⟩ := hv2.some_ hk2
          have nt : ∀ g ty cs', Blk w13 g ty cs' → ty ≠ 78 → ¬ One w4.heap.size g := fun g ty cs' hg ht e => by
            have e : g = w4.heap.size := e
            subst e
            exact ht (hg.eq hT13).1
          have hT14 : Blk w14 w4.heap.size 78 #[Ptr p, .int .i64 0, .int .i64 mN, .int .i64 nN, Ptr (w6.heap.size + 1), Ptr (w9.heap.size + 1), Ptr gl, Ptr gr] := by
            rw [e14, ea, ea']
            exact (hT13.set_ 6 (Ptr gl)).set_ 7 (Ptr gr)
          have h14 : w9.heap.size < w14.heap.size ∧ w4.heap.size < w14.heap.size := by
            obtain ⟨k, f, hk, _⟩ := h2D.kn
            have := hk.lt
            have := hfs.size
            exact ⟨by omega, by omega⟩
          exact ⟨hf14, .inl ⟨t, w4.heap.size, mN, nN, c, c', ⟨w.heap.size + 1, w.heap.size, u, w2.heap.size, w2.heap.size + 1, w6.heap.size + 1, w4.heap.size + 1, w6.heap.size, w9.heap.size + 1, w7.heap.size, w9.heap.size, p, gl, gr, ps2, D2⟩, HI.out, HA.out, rfl, rfl, H3.out, hk1, hk2, rfl, ⟨hT14, HHP.out, h1D.cellG (lead_fresh (w.heap.size + 1) w.heap.size ps2 D2 u w2.heap.size (w2.heap.size + 1)) hT13 (by decide) (by decide) HOWN.out hfs, h2D.cellG (lead_fresh (w.heap.size + 1) w.heap.size ps2 D2 u w2.heap.size (w2.heap.size + 1)) hT13 (by decide) (by decide) HOWN.out hfs, O1, O2, by show w6.heap.size ≠ w9.heap.size; omega, by show w4.heap.size + 1 ≠ w9.heap.size; omega, by show w7.heap.size ≠ w6.heap.size; omega, ⟨_, _, _, _, hgl.fr hfs (nt _ _ _ hgl (by decide))⟩, ⟨_, _, _, _, hgr.fr hfs (nt _ _ _ hgr (by decide))⟩, ⟨by show w.heap.size ≤ w2.heap.size; omega, by show w.heap.size ≤ w6.heap.size; omega, by show w.heap.size ≤ w9.heap.size; omega⟩, fun b hb => by have := ownlt b hb; omega, by show w4.heap.size + 1 < _; omega, by show w7.heap.size < _; omega, by show w6.heap.size < _; omega, by show w9.heap.size < _; omega⟩⟩⟩
      have KS : Hid (∀ (w' : World) (v v2 : Value), Blk w' w4.heap.size 78 #[Ptr p, .int .i64 0, .int .i64 mN, .int .i64 nN, Ptr (w6.heap.size + 1), Ptr (w9.heap.size + 1), .pointer none, .pointer none] → ((w'.setCell ⟨w4.heap.size, 6, none⟩ v).cell? ⟨w4.heap.size, 4, none⟩ = some (Ptr (w6.heap.size + 1)) ∧ (w'.setCell ⟨w4.heap.size, 6, none⟩ v).cell? ⟨w4.heap.size, 5, none⟩ = some (Ptr (w9.heap.size + 1))) ∧
          (((w'.setCell ⟨w4.heap.size, 6, none⟩ v).setCell ⟨w4.heap.size, 7, none⟩ v2).cell? ⟨w4.heap.size, 4, none⟩ = some (Ptr (w6.heap.size + 1)) ∧ ((w'.setCell ⟨w4.heap.size, 6, none⟩ v).setCell ⟨w4.heap.size, 7, none⟩ v2).cell? ⟨w4.heap.size, 5, none⟩ = some (Ptr (w9.heap.size + 1)))) := fun w' v v2 h => by
        have h6 := h.set_ 6 v
        have h7 := h6.set_ 7 v2
        exact ⟨⟨(h6.cell 4).trans rfl, (h6.cell 5).trans rfl⟩, (h7.cell 4).trans rfl, (h7.cell 5).trans rfl⟩
      obtain ⟨s4, s5, _, _, _, _, _⟩ := SS.out _ _ _ hT11 rfl rfl
      clear hcs2 hf10 hcs1 hT10 hf1011 h1C h2C hT11 hord hpl ownlt O1 O2 hw10
      go_wp2_with fail
      go_region_held3 (fun w' => w'.cell? ⟨w4.heap.size, 4, none⟩ = some (Ptr (w6.heap.size + 1)) ∧ w'.cell? ⟨w4.heap.size, 5, none⟩ = some (Ptr (w9.heap.size + 1))) (first | (exact (KS.out w13 _ (.pointer none) HA2.out.2.2.2.2.1).1) | (exact (KS.out w13 _ _ HA2.out.2.2.2.2.1).2) | go_keep)
        (first | (go_at_call 60; ((with_reducible refine A1.out.mono ?_); rintro e w12 ⟨a1, rfl, HA1⟩; obtain ⟨t4, t5, _, _, _, _, _⟩ := SS.out _ _ _ HA1.out.2.2.2.1 rfl rfl)) | (go_at_call 60; ((with_reducible refine (B1.out w12 a1 HA1.out).mono ?_); rintro e w13 ⟨a2, rfl, HA2⟩; obtain ⟨r4, r5, r6, r7, r8, r9, r10⟩ := SS.out _ _ _ HA2.out.2.2.2.2.1 rfl rfl)))
      have hT14 : Blk ((w13.setCell ⟨w4.heap.size, 6, none⟩ (.pointer a1)).setCell ⟨w4.heap.size, 7, none⟩ (.pointer a2)) w4.heap.size 78 #[Ptr p, .int .i64 0, .int .i64 mN, .int .i64 nN, Ptr (w6.heap.size + 1), Ptr (w9.heap.size + 1), .pointer a1, .pointer a2] := (HA2.out.2.2.2.2.1.set_ 6 (.pointer a1)).set_ 7 (.pointer a2)
      have HFIN := Lib.hid (FIN.out w13 _ a1 a2 HA2.out rfl)
      have HV := Lib.hid (And.intro HA2.out.1 HA2.out.2.1)
      clear A1 B1 FIN KS SS r4 r5 r6 r7 r8 r9 r10 t4 t5 s4 s5 HA1 HA2 HMM HFR4 HU HUL HF4 HFR6 HS6 HT6 HC9 HT9 HS9 HF6 HF8 HF9 HF11 HHP HOWN
      generalize ((w13.setCell ⟨w4.heap.size, 6, none⟩ (.pointer a1)).setCell ⟨w4.heap.size, 7, none⟩ (.pointer a2)) = w14 at hT14 HFIN ⊢
      have e6 : w14.cell? ⟨w4.heap.size, 6, none⟩ = some (.pointer a1) := (hT14.cell 6).trans rfl
      have e7 : w14.cell? ⟨w4.heap.size, 7, none⟩ = some (.pointer a2) := (hT14.cell 7).trans rfl
      clear hT14
      rcases hk1 : t.kn (sz1 mN) with _ | c
      · have e := HV.out.1.none_ hk1
        injection e with e
        subst e
        have HE := Lib.hid (HFIN.out.1 (.inl hk1))
        clear HFIN HV hk1
        go_wp2_with fail
        go_ret
        exact HE.out
      · obtain ⟨gl, x, y, e, _⟩ := HV.out.1.some_ hk1
        injection e with e
        subst e
        rcases hk2 : t.kn (sz1 nN) with _ | c'
        · have e := HV.out.2.none_ hk2
          injection e with e
          subst e
          have HE := Lib.hid (HFIN.out.1 (.inr hk2))
          clear HFIN HV hk1 hk2
          go_wp2_with fail
          go_ret
          exact HE.out
        · obtain ⟨gr, x', y', e, _⟩ := HV.out.2.some_ hk2
          injection e with e
          subst e
          have HE := Lib.hid (HFIN.out.2 c c' hk1 hk2)
          clear HFIN HV hk1 hk2
          go_wp2_with fail
          go_ret
          exact HE.out
    · have HE : Hid (PtP s m n w (.returned (.pointer none)) w2) := ⟨hfr, .inr ⟨fun t mN nN c c' h1 h2 _ _ h5 _ _ => h3 h5, rfl⟩⟩
      clear hfr hP2 hi ha hh HI HA
      by_cases g1 : min m n < 1
      · go_wp2_with fail
        go_ret
        exact HE.out
      · have g2 : 3 < max m n := by unfold In3 at h3; omega
        clear h3
        go_wp2_with fail
        go_ret
        exact HE.out
  · obtain rfl := he
    have HE : Hid (PtP s m n w (.returned (.pointer none)) w2) := ⟨hfr, .inr ⟨fun t mN nN c c' h1 h2 _ _ _ _ _ => hno t h1 h2, rfl⟩⟩
    clear hfr hP2 hno
    go_wp2_with fail
    go_ret
    exact HE.out
end Go.Proofs.YtloecimlimoanaaGreatDoor

/- Types with sizes on both sides: what keeps them; how many relations are asked. -/
namespace Go.Proofs.YtloecimlimoanaaGreatDoor
open Go.RowKit Go.ChangeMaps

/-- a counter is kept by what leaves its blocks and all sets alone -/
theorem CsAt.any {u ml mz mk c : Nat} {own : Nat → Prop} {L : Nat → Ty → Prop} {Q : World → Prop} {μ : Nat → Option Nat} {w w' : World} {T : Nat → Prop} (hL : Lead u ml own L Q) (h : CsAt u ml mz mk c L Q μ w) (hf : Fr T w w') (hB : ∀ g ty cs, Blk w g ty cs → ty = 138 ∨ ty = 107 → ¬ T g) (hown : ∀ b, T b → ¬ own b) (hz : ¬ T mz) (hk : ¬ T mk) : CsAt u ml mz mk c L Q μ w' := by
  obtain ⟨k, f, k1, k2⟩ := h.kn
  have hk' : KeepS w w' := fun g cs' hg => hg.fr hf (hB _ _ _ hg (.inr rfl))
  refine ⟨hL.keep w w' _ h.q hf hown, h.blk.fr hf (hB _ _ _ h.blk (.inl rfl)), h.sz.fr hf hz, k, f, k1.keep (hf.block mk k1.lt hk), fun p v hp => ?_⟩
  obtain ⟨t, g1, g2⟩ := k2 p v hp
  exact ⟨t, g1, g2.keep hk'⟩

theorem PtD.lead (d : PtD) : Lead d.u d.ml d.own d.L d.Q := lead_fresh d.q d.mm d.ps d.D d.u d.ml d.ms

/-- kept by what leaves old blocks alone but those of bit sets and a loop's record -/
theorem PtIs.fr {d : PtD} {w w' : World} {T t m n c c' lo hi} {X : Nat → Prop} (h : PtIs d w T t m n c c' lo hi) (hf : Fr X w w') (hX : ∀ b, X b → hi ≤ b) (hB : ∀ g ty cs, Blk w g ty cs → ty = 138 ∨ ty = 107 ∨ ty = 78 → ¬ X g) : PtIs d w' T t m n c c' lo hi := by
  obtain ⟨s, z, x, y, hl⟩ := h.sl
  obtain ⟨s', z', x', y', hr⟩ := h.sr
  obtain ⟨h1, h2, h3, h4, h5⟩ := h.high
  have nx : ∀ b, b < hi → ¬ X b := fun b hb hx => by have := hX b hx; omega
  exact ⟨h.blk.fr hf (hB _ _ _ h.blk (.inr (.inr rfl))), h.has, h.cs1.any d.lead hf (fun g ty cs hb ht => hB g ty cs hb (ht.elim .inl (fun h => .inr (.inl h)))) (fun b hb ho => nx b (h1 b ho) hb) (nx _ h2) (nx _ h4),
    h.cs2.any d.lead hf (fun g ty cs hb ht => hB g ty cs hb (ht.elim .inl (fun h => .inr (.inl h)))) (fun b hb ho => nx b (h1 b ho) hb) (nx _ h3) (nx _ h5), h.ok1, h.ok2, h.kk, h.z1, h.z2,
    ⟨s, z, x, y, hl.fr hf (hB _ _ _ hl (.inr (.inl rfl)))⟩, ⟨s', z', x', y', hr.fr hf (hB _ _ _ hr (.inr (.inl rfl)))⟩, h.low, h.high⟩

theorem PtIs.no {d : PtD} {w w' : World} {T t m n c c' lo hi} (h : PtIs d w T t m n c c' lo hi) (hf : Fr No w w') : PtIs d w' T t m n c c' lo hi := h.fr hf (fun _ h => h.elim) (fun _ _ _ _ _ h => h)

/-- a type with no variable asks no relation -/
theorem relT_free {μ ν : Nat → Option Nat} {ρ ρ' : Nat → Nat → Nat → Bool} : ∀ {t : Ty}, (∀ n, ¬ t.has n) → ∀ x y, relT μ ν ρ t x y = relT μ ν ρ' t x y
  | .v i, h, _, _ => (h i rfl).elim
  | .o, _, _, _ => rfl
  | .n false l r, h, x, y => by
    have hl := relT_free (μ := μ) (ν := ν) (ρ := ρ) (ρ' := ρ') (t := l) (fun n hn => h n (.inl hn))
    have hr := relT_free (μ := μ) (ν := ν) (ρ := ρ) (ρ' := ρ') (t := r) (fun n hn => h n (.inr hn))
    simp only [relT, hl, hr]
  | .n true l r, h, x, y => by
    have hl := relT_free (μ := μ) (ν := ν) (ρ := ρ) (ρ' := ρ') (t := l) (fun n hn => h n (.inl hn))
    have hr := relT_free (μ := μ) (ν := ν) (ρ := ρ) (ρ' := ρ') (t := r) (fun n hn => h n (.inr hn))
    simp only [relT, hl, hr]

/-- how many relations are asked -/
def nrel (_ : Ty) (m n : Nat) : Nat := 2 ^ (m * n)
end Go.Proofs.YtloecimlimoanaaGreatDoor

/- The relations between both sizes, lifted one by one: the iterator. -/
namespace Go.Proofs.YtloecimlimoanaaGreatDoor
open Go.RowKit Go.ChangeMaps Go.Shelf

attribute [local go_sem] Oper.semAt_some

/-- the pairs of a relation with a number -/
def numP (m n k : Nat) : List Int := (elems (m * n) (k.testBit ·)).map Int.ofNat
/-- what it relates, for any variable -/
def numR (m n k : Nat) : Nat → Nat → Nat → Bool := fun _ x y => memR n (numP m n k) x y

theorem numOk {m n k : Nat} (h1 : 1 ≤ m) (h3 : m ≤ 3) (g1 : 1 ≤ n) (g3 : n ≤ 3) (hk : k < 2 ^ (m * n)) : NumOk m n k := by
  have hmn : m * n ≤ 3 * 3 := Nat.mul_le_mul h3 g3
  have e : ((m : Int) * (n : Int)).toNat = m * n := by rw [← Int.natCast_mul]; rfl
  refine ⟨by omega, by omega, by rw [← Int.natCast_mul]; omega, by omega, ?_⟩
  rw [e]
  exact_mod_cast hk

theorem numO_eq {m n k : Nat} (h : NumOk m n k) : relNumO m n k = some ((m : Int), (n : Int), numP m n k) := by
  rw [relNumO_yes h]
  have e : ((m : Int) * (n : Int)).toNat = m * n := by rw [← Int.natCast_mul]; rfl
  rw [e]
  rfl

theorem numP_len (m n k : Nat) : (numP m n k).length ≤ m * n := by
  unfold numP elems
  rw [List.length_map]
  exact Nat.le_trans (List.length_filter_le _ _) (by simp)

theorem numP_ok {m n k : Nat} (h1 : 1 ≤ m) (h3 : m ≤ 3) (g1 : 1 ≤ n) (g3 : n ≤ 3) : RelOk m n (numP m n k) := by
  refine ⟨by omega, by omega, ?_, ?_⟩
  · unfold numP
    rw [List.pairwise_map]
    exact ((sorted_range (m * n)).filter _).imp fun {a b} h => by simpa using h
  · intro p hp
    unfold numP at hp
    obtain ⟨q, hq, rfl⟩ := List.mem_map.1 hp
    have := (elems_mem.1 hq).1
    rw [← Int.natCast_mul]
    exact ⟨Int.natCast_nonneg q, Int.ofNat_lt.2 this⟩

theorem sz1_some {m i c : Nat} (h : sz1 m i = some c) : i = 0 ∧ c = m := by
  unfold sz1 szs szs at h
  by_cases e : 0 = i
  · simp only [e, if_true] at h
    injection h with h
    exact ⟨e.symm, h.symm⟩
  · simp only [e, if_false] at h
    cases h

/-- a block of integers, of a slice of integers or of truth values, or a loop's record -/
def RowBlk (w : World) (b : Nat) : Prop := (∃ ty cs, Blk w b ty cs ∧ (ty = 3 ∨ ty = 25 ∨ ty = 4)) ∨ ∃ r, w.heap[b]? = some (.loop r)

theorem RowBlk.ne {w : World} {b g : Nat} {ty : TypeId} {cs : Array Value} (h : RowBlk w b) (hb : Blk w g ty cs) (h1 : ty ≠ 3) (h2 : ty ≠ 25) (h0 : ty ≠ 4) : g ≠ b := by
  rintro rfl
  rcases h with ⟨ty', cs', h3, h4⟩ | ⟨r, hr⟩
  · have e := (hb.eq h3).1
    subst e
    exact h4.elim h1 (fun h => h.elim h2 h0)
  · exact hb.ne_of hr (fun _ h => by cases h) rfl

theorem RowBlk.ne_map {w : World} {b m : Nat} {es : Array MapEntry} {clk : Nat} (h : RowBlk w b) (hm : w.heap[m]? = some (.map es clk)) : m ≠ b := by
  rintro rfl
  rcases h with ⟨ty', cs', h3, h4⟩ | ⟨r, hr⟩
  · exact h3.ne_map hm rfl
  · rw [hr] at hm; cases hm

theorem Fresh.not_row {q m : Nat} {ps : List Nat} {D : List Ty} {u ml ms b : Nat} {w : World} (hQ : Fresh q m ps D u ml ms w) (hb : RowBlk w b) : ¬ (b = q ∨ b = m ∨ b ∈ ps ∨ b = u ∨ b = ml) := by
  rintro (rfl | rfl | h | rfl | rfl)
  · exact hb.ne hQ.pool.head (by decide) (by decide) (by decide) rfl
  · obtain ⟨f, ⟨es, clk, hm, _⟩, _⟩ := hQ.pool.map
    exact hb.ne_map hm rfl
  · obtain ⟨i, hi, e⟩ := List.getElem_of_mem h
    have hD : i < D.length := by have := hQ.pool.len; omega
    obtain ⟨x, y, h1, _⟩ := hQ.pool.node i D[i] b (List.getElem?_eq_getElem hD) (by rw [List.getElem?_eq_getElem hi, e])
    exact hb.ne h1 (by decide) (by decide) (by decide) rfl
  · exact hb.ne hQ.blk (by decide) (by decide) (by decide) rfl
  · obtain ⟨es, clk, hm, _⟩ := hQ.map
    exact hb.ne_map hm rfl

theorem PtIs.frX {d : PtD} {w w' : World} {T t m n c c' lo hi} {X : Nat → Prop} (h : PtIs d w T t m n c c' lo hi) (hf : Fr X w w') (hX : ∀ b, X b → hi ≤ b ∨ RowBlk w b) (hB : ∀ g ty cs, Blk w g ty cs → ty = 138 ∨ ty = 107 ∨ ty = 78 → ¬ X g) : PtIs d w' T t m n c c' lo hi := by
  obtain ⟨s, z, x, y, hl⟩ := h.sl
  obtain ⟨s', z', x', y', hr⟩ := h.sr
  obtain ⟨h1, h2, h3, h4, h5⟩ := h.high
  have no : ∀ b, d.own b → ¬ X b := fun b hb hx => by
    rcases hX b hx with hX | hX
    · have := h1 b hb; omega
    · exact Fresh.not_row h.cs1.q hX hb
  have nm : ∀ b, b < hi → (∃ es clk, w.heap[b]? = some (.map es clk)) → ¬ X b := fun b hb ⟨es, clk, hm⟩ hx => by
    rcases hX b hx with hX | hX
    · omega
    · exact hX.ne_map hm rfl
  have a1 : ∃ es clk, w.heap[d.mz1]? = some (.map es clk) := by obtain ⟨k, f, ⟨es, clk, hm, _⟩, _⟩ := h.cs1.sz; exact ⟨es, clk, hm⟩
  have a2 : ∃ es clk, w.heap[d.mz2]? = some (.map es clk) := by obtain ⟨k, f, ⟨es, clk, hm, _⟩, _⟩ := h.cs2.sz; exact ⟨es, clk, hm⟩
  have a3 : ∃ es clk, w.heap[d.mk1]? = some (.map es clk) := by obtain ⟨k, f, ⟨es, clk, hm, _⟩, _⟩ := h.cs1.kn; exact ⟨es, clk, hm⟩
  have a4 : ∃ es clk, w.heap[d.mk2]? = some (.map es clk) := by obtain ⟨k, f, ⟨es, clk, hm, _⟩, _⟩ := h.cs2.kn; exact ⟨es, clk, hm⟩
  exact ⟨h.blk.fr hf (hB _ _ _ h.blk (.inr (.inr rfl))), h.has, h.cs1.any d.lead hf (fun g ty cs hb ht => hB g ty cs hb (ht.elim .inl (fun h => .inr (.inl h)))) (fun b hb ho => no b ho hb) (nm _ h2 a1) (nm _ h4 a3),
    h.cs2.any d.lead hf (fun g ty cs hb ht => hB g ty cs hb (ht.elim .inl (fun h => .inr (.inl h)))) (fun b hb ho => no b ho hb) (nm _ h3 a2) (nm _ h5 a4), h.ok1, h.ok2, h.kk, h.z1, h.z2,
    ⟨s, z, x, y, hl.fr hf (hB _ _ _ hl (.inr (.inl rfl)))⟩, ⟨s', z', x', y', hr.fr hf (hB _ _ _ hr (.inr (.inl rfl)))⟩, h.low, h.high⟩

theorem PtIs.maps {d : PtD} {w : World} {T t m n c c' lo hi} (h : PtIs d w T t m n c c' lo hi) : ∀ b, Three d.ml d.mk1 d.mk2 b → lo ≤ b ∧ ∃ es clk, w.heap[b]? = some (.map es clk) := by
  rintro b (h1 | h1 | h1)
  · exact ⟨by rw [h1]; exact h.low.1, h.cs1.maps d.lead b (.inl h1)⟩
  · exact ⟨by rw [h1]; exact h.low.2.1, h.cs1.maps d.lead b (.inr h1)⟩
  · exact ⟨by rw [h1]; exact h.low.2.2, h.cs2.maps d.lead b (.inr h1)⟩

/-- what lifting the relation with a number answers -/
def LiftP (d : PtD) (T : Nat) (t : Ty) (m n c c' lo hi k : Nat) (w : World) (e : Ending) (w' : World) : Prop :=
  ∃ (P : Nat) (F : Cach), e = .returned (Ptr P) ∧ LtAt (sz1 m) (sz1 n) (numR m n k) F No w' t P ∧ LC (sz1 m) (sz1 n) (numR m n k) F No w' ∧ (∀ g, InF F g → w.heap.size ≤ g) ∧ Fr (Three d.ml d.mk1 d.mk2) w w' ∧ PtIs d w' T t m n c c' lo hi

set_option maxRecDepth 100000 in
set_option maxHeartbeats 4000000 in
theorem lift_any (d : PtD) (T : Nat) (t : Ty) (m n c c' lo hi k : Nat) (wr : World) (hP : PtIs d wr T t m n c c' lo hi) (hm1 : 1 ≤ m) (hm : m ≤ 3) (hn1 : 1 ≤ n) (hn : n ≤ 3) (hk1 : t.kn (sz1 m) = some c) (hk2 : t.kn (sz1 n) = some c') (hT : TZt wr) (hk : k < 2 ^ (m * n)) :
    Calls Tryz.prog 63 #[Ptr T, .int .i64 k] wr fun e w' => LiftP d T t m n c c' lo hi k wr e w' := by
  have HPT := Lib.hid hP
  have HTZ := Lib.hid hT
  have s2 : wr.cell? ⟨T, 2, none⟩ = some (.int .i64 m) := (HPT.out.blk.cell 2).trans rfl
  have s3 : wr.cell? ⟨T, 3, none⟩ = some (.int .i64 n) := (HPT.out.blk.cell 3).trans rfl
  have hNOK : NumOk m n k := numOk hm1 hm hn1 hn hk
  have SS : Hid (∀ W', Fr No wr W' → W'.cell? ⟨T, 2, none⟩ = some (.int .i64 m) ∧ W'.cell? ⟨T, 3, none⟩ = some (.int .i64 n) ∧ T < W'.heap.size) := fun W' hf => by
    have h2 := HPT.out.blk.fr hf (fun h => h)
    exact ⟨(h2.cell 2).trans rfl, (h2.cell 3).trans rfl, h2.lt⟩
  have RN : Hid (∀ W', Fr No wr W' → Calls Tryz.prog 15 #[.int .i64 m, .int .i64 n, .int .i64 k] W' fun e w' => ∃ A q cc, e = .returned (.tuple #[RV m n A q cc, .bool true]) ∧ Fr No W' w' ∧ Hid (Fr No wr w' ∧ OR w' wr.heap.size A q cc (numP m n k))) := fun W' hf => (implRelNumber W' m n k (HTZ.out.fr hf (fun h => h))).mono (fun e w' ⟨A, q, cc, h1, h2, h3⟩ => by
    rw [numO_eq hNOK] at h1 h3
    exact ⟨A, q, cc, h1, h2, hf.trans h2, h3.low hf.size⟩)
  have hd0 : Fr No wr wr.drew := (Fr.refl No wr).drew
  have hd1 : Fr No wr (wr.alloc (.cells #[.int .i64 0, .int .i64 0, .slice none 0 0] 27)).drew := ((Fr.refl No wr).alloc _).drew
  obtain ⟨_, _, l2⟩ := SS.out wr (Fr.refl _ _)
  have nT : T ≠ wr.heap.size := by omega
  have nT' : wr.heap.size ≠ T := by omega
  clear hP hT
  go_enter Tryz.func63, Tryz.ntmps63
  go_wp2_with fail
  rename_i Ks hKs
  suffices REST : Hid (∀ (kb : Nat) (A : Option Addr) (q cc : Nat) (V : World), Fr No wr V → Blk V kb 27 #[.int .i64 m, .int .i64 n, .slice A q cc] → OR V wr.heap.size A q cc (numP m n k) → wr.heap.size ≤ kb → Ks { tmps := #[Ptr T, Value.int IntKind.i64 ↑k, undef, undef, Value.pointer none, Value.pointer (some { block := kb, off := 0 }), Value.bool true, undef, undef, Value.tuple #[RV (↑m) (↑n) A q cc, Value.bool true], Ptr T, Value.pointer (some { block := T, off := 0 }), Value.pointer (some { block := T, off := 2 }), Value.int IntKind.i64 ↑m, Ptr T, Value.pointer (some { block := T, off := 0 }), Value.pointer (some { block := T, off := 3 }), Value.int IntKind.i64 ↑n, Value.int IntKind.i64 ↑k, Value.tuple #[RV (↑m) (↑n) A q cc, Value.bool true], RV (↑m) (↑n) A q cc, Value.bool true, undef, undef, undef, undef, undef, undef, undef, undef, undef, undef, undef, undef, undef, undef, undef, undef, undef, undef, undef, undef, undef, undef, undef, undef, undef], defers := [] } V) by
    clear hKs
    go_region_held3 (fun w' => w'.cell? ⟨T, 2, none⟩ = some (.int .i64 m) ∧ w'.cell? ⟨T, 3, none⟩ = some (.int .i64 n)) (go_keep)
      (first | (go_at_call 15; ((with_reducible refine (RN.out _ (by first | exact hd0 | exact hd1)).mono ?_); rintro e w2 ⟨A, q, cc, rfl, t6, HA⟩; obtain ⟨t2, t3, t5⟩ := SS.out w2 HA.out.1; first | (have hk6 := (Blk.drew (Blk.new wr 27 #[.int .i64 0, .int .i64 0, .slice none 0 0])).fr t6 (fun h => h); have x0 : w2.cell? ⟨wr.heap.size, 0, none⟩ = some (.int .i64 0) := (hk6.cell 0).trans rfl; have x1 : w2.cell? ⟨wr.heap.size, 1, none⟩ = some (.int .i64 0) := (hk6.cell 1).trans rfl; have x2 : w2.cell? ⟨wr.heap.size, 2, none⟩ = some (.slice none 0 0) := (hk6.cell 2).trans rfl; have y0 := hk6.frozen 0; have y1 := hk6.frozen 1; have y2 := hk6.frozen 2; have y3 := hk6.lt) | skip)))
    all_goals first
      | exact REST.out _ A q cc _ (HA.out.1.alloc _) (Blk.new _ _ _) (HA.out.2.no ((Fr.refl _ _).alloc _)) HA.out.1.size
      | (obtain ⟨j1, j2⟩ := ans_store (Nat.le_refl _) HA.out.1 hk6 HA.out.2 (Nat.le_refl _) (.int .i64 m) (.int .i64 n) (.slice A q cc); exact REST.out _ A q cc _ j1 (((hk6.set_ 0 _).set_ 1 _).set_ 2 _) j2 (Nat.le_refl _))
  intro kb A q cc V hfV hkb hor hkbl
  refine hKs _ _ ?_
  clear hKs nT nT' l2 hd0 hd1 s2 s3 RN SS
  obtain ⟨rfl, hown⟩ := hor
  have hpl := numP_len m n k
  have hmn : m * n ≤ 9 := Nat.le_trans (Nat.mul_le_mul hm hn) (by decide)
  have RD : Hid (∀ V', Fr No V V' → Calls Tryz.prog 31 #[RV m n A (numP m n k).length cc] V' fun e w' => ∃ b : Nat, e = .returned (Ptr b) ∧ Fr No V' w' ∧ Hid (Fr No V w' ∧ RelAt w' b m n V.heap.size (memR n (numP m n k)))) := fun V' hf => (readRelation_any V' m n A cc (numP m n k) ((OR.isl ⟨rfl, hown⟩).keep hf (fun _ h => h.elim)) (by omega)).mono (fun e w' ⟨h1, h2⟩ => by
    rcases h2 with ⟨l', r', b, e1, e2, _, rfl, h3, Rb, gs, h4, h5⟩ | ⟨hno, _⟩
    · have e1 : m = l' := by omega
      have e2 : n = r' := by omega
      subst e1 e2
      exact ⟨b, rfl, h1, hf.trans h1, Nat.le_trans hf.size h3, Rb, gs, h4, h5.base hf.size⟩
    · exact absurd (numP_ok hm1 hm hn1 hn) hno)
  have HFV := Lib.hid hfV
  have HKB := Lib.hid hkb
  have HKL := Lib.hid hkbl
  have SS : Hid (∀ W', Fr No V W' → W'.cell? ⟨T, 1, none⟩ = some (.int .i64 0) ∧ W'.cell? ⟨kb, 0, none⟩ = some (.int .i64 m) ∧ W'.cell? ⟨kb, 1, none⟩ = some (.int .i64 n) ∧ W'.cell? ⟨kb, 2, none⟩ = some (.slice A (numP m n k).length cc) ∧ T < W'.heap.size ∧ kb < W'.heap.size) := fun W' hf => by
    have h2 := (HPT.out.blk.fr HFV.out (fun h => h)).fr hf (fun h => h)
    have h3 := HKB.out.fr hf (fun h => h)
    exact ⟨(h2.cell 1).trans rfl, (h3.cell 0).trans rfl, (h3.cell 1).trans rfl, (h3.cell 2).trans rfl, h2.lt, h3.lt⟩
  have UPD : Hid (∀ (W' : World) (mr b : Nat), MapAt W' encI mr 0 (fun _ => none) → ∃ w6, (Instr.mapUpdate 95 (.map (some mr)) (.int .i64 0) (Ptr b)).run Tryz.prog W' = .ok () w6 ∧ Hid (Fr (One mr) W' w6 ∧ ∃ kk f, MapAt w6 encI mr kk f ∧ f 0 = some (Ptr b))) := fun W' mr b h => by
    obtain ⟨w6, h1, h2, h3, _⟩ := h.update (int_kind Tryz.underlying3) Tryz.underlying95 0 (Ptr b)
    exact ⟨w6, h1, (Fr.refl (One mr) W').turned h3 (.inl rfl), _, _, h2, updK_same _ _ _⟩
  have hmm := @run_makeMap Tryz.prog
  have hd0 : Fr No V V.drew := (Fr.refl No V).drew
  have hd1 : Fr No V (V.alloc (.map #[] 0)).drew := ((Fr.refl No V).alloc _).drew
  obtain ⟨s1, s2, s3, s4, s6, s7⟩ := SS.out V (Fr.refl _ _)
  generalize (numP m n k).length = ql at *
  clear hfV hkb hkbl hown hpl
  go_wp2_with fail
  rename_i Ks hKs
  have R2 : Hid (∀ (W' : World) (mr b : Nat) (w6 : World), Fr No V W' → RelAt W' b m n V.heap.size (memR n (numP m n k)) → MapAt W' encI mr 0 (fun _ => none) → (Fr (One mr) W' w6 ∧ ∃ kk f, MapAt w6 encI mr kk f ∧ f 0 = some (Ptr b)) → V.heap.size ≤ mr →
      Fr No V w6 ∧ RelAt w6 b m n V.heap.size (memR n (numP m n k)) ∧ (∃ kk f, MapAt w6 encI mr kk f ∧ f 0 = some (Ptr b)) ∧ V.heap.size ≤ mr) := by
    rintro W' mr b w6 h1 h2 ⟨es, clk, hm, _⟩ ⟨h4, h5⟩ h6
    exact ⟨h1.then_ h4 (fun i hi h => by have h : i = mr := h; omega), h2.frO h4 (fun g t cs hb _ h => by have h : g = mr := h; exact hb.ne_map hm h), h5, h6⟩
  suffices REST : Hid (∀ (mr b : Nat) (V6 : World), (Fr No V V6 ∧ RelAt V6 b m n V.heap.size (memR n (numP m n k)) ∧ (∃ kk f, MapAt V6 encI mr kk f ∧ f 0 = some (Ptr b)) ∧ V.heap.size ≤ mr) → Ks { tmps := #[Ptr T, Value.int IntKind.i64 ↑k, undef, undef, Value.pointer none, Value.pointer (some { block := kb, off := 0 }), Value.bool true, Value.map (some mr), undef, Value.tuple #[RV (↑m) (↑n) A ql cc, Value.bool true], Ptr T, Value.pointer (some { block := T, off := 0 }), Value.pointer (some { block := T, off := 2 }), Value.int IntKind.i64 ↑m, Ptr T, Value.pointer (some { block := T, off := 0 }), Value.pointer (some { block := T, off := 3 }), Value.int IntKind.i64 ↑n, Value.int IntKind.i64 ↑k, Value.tuple #[RV (↑m) (↑n) A ql cc, Value.bool true], RV (↑m) (↑n) A ql cc, Value.bool true, Value.map (some mr), Ptr T, Value.pointer (some { block := T, off := 0 }), Value.pointer (some { block := T, off := 1 }), Value.int IntKind.i64 0, Value.agg #[Value.int IntKind.i64 ↑m, Value.int IntKind.i64 ↑n, Value.slice A ql cc], Ptr b, Value.map (some mr), undef, undef, undef, undef, undef, undef, undef, undef, undef, undef, undef, undef, undef, undef, undef, undef, undef], defers := [] } V6) by
    clear hKs
    go_region_held3 (fun w' => w'.cell? ⟨T, 1, none⟩ = some (.int .i64 0) ∧ w'.cell? ⟨kb, 0, none⟩ = some (.int .i64 m) ∧ w'.cell? ⟨kb, 1, none⟩ = some (.int .i64 n) ∧ w'.cell? ⟨kb, 2, none⟩ = some (.slice A ql cc)) (go_keep)
      (first | (go_at_call 31; ((first | (with_reducible refine (RD.out _ hd0).mono ?_) | (with_reducible refine (RD.out _ hd1).mono ?_)); rintro e w5 ⟨b, rfl, t6, HB⟩; obtain ⟨z1, z2, z3, z4, z6, z7⟩ := SS.out w5 HB.out.1; (first | (have hma : MapAt w5 encI V.heap.size 0 (fun _ => none) := ((MapAt.made V encI).keep (w' := (V.alloc (.map #[] 0)).drew) rfl).keep (Fr.block t6 V.heap.size (by simp) (fun h => h)); obtain ⟨w6, hrun, H6⟩ := UPD.out w5 V.heap.size b hma; obtain ⟨y1, y2, y3, y4, y6, y7⟩ := SS.out w6 (HB.out.1.then_ H6.out.1 (fun i hi h => by have h : i = V.heap.size := h; omega))) | (have hma := MapAt.made w5 encI; obtain ⟨w6, hrun, H6⟩ := UPD.out (w5.alloc (.map #[] 0)) w5.heap.size b hma; obtain ⟨y1, y2, y3, y4, y6, y7⟩ := SS.out w6 ((HB.out.1.alloc _).then_ H6.out.1 (fun i hi h => by have h : i = w5.heap.size := h; have := Fr.size HB.out.1; omega)))))))
    all_goals first
      | exact REST.out V.heap.size b w6 (R2.out w5 V.heap.size b w6 HB.out.1 HB.out.2 hma H6.out (Nat.le_refl _))
      | exact REST.out w5.heap.size b w6 (R2.out (w5.alloc (.map #[] 0)) w5.heap.size b w6 (HB.out.1.alloc _) (HB.out.2.fr ((Fr.refl No w5).alloc _) (fun _ h => h.elim)) hma H6.out HB.out.1.size)
  rintro mr b V6 ⟨hf6, hrel, hmap, hmr⟩
  refine hKs _ _ ?_
  clear hKs R2 RD UPD hmm hd0 hd1 s1 s2 s3 s4 s6 s7 SS
  have hpt6 := (HPT.out.no HFV.out).no hf6
  have s4 : V6.cell? ⟨T, 4, none⟩ = some (Ptr d.c1) := (hpt6.blk.cell 4).trans rfl
  have s5 : V6.cell? ⟨T, 5, none⟩ = some (Ptr d.c2) := (hpt6.blk.cell 5).trans rfl
  have s7 := hpt6.blk.lt
  have HPT6 := Lib.hid hpt6
  have HF6 := Lib.hid (HFV.out.trans hf6)
  have HREL := Lib.hid hrel
  have HMAP := Lib.hid hmap
  have HMR : Hid (V.heap.size ≤ mr ∧ wr.heap.size ≤ V.heap.size) := ⟨hmr, HFV.out.size⟩
  clear hpt6 hf6 hrel hmap hmr
  go_wp2_with fail
  go_region_held3 (fun w' => w'.cell? ⟨T, 4, none⟩ = some (Ptr d.c1) ∧ w'.cell? ⟨T, 5, none⟩ = some (Ptr d.c2)) (go_keep) (fail)
  have hfa : Fr No V6 (V6.alloc (.cells #[.map (some mr), Ptr d.c1, Ptr d.c2] 104)).drew := ((Fr.refl No V6).alloc _).drew
  have hLb : Blk (V6.alloc (.cells #[.map (some mr), Ptr d.c1, Ptr d.c2] 104)).drew V6.heap.size 104 #[.map (some mr), Ptr d.c1, Ptr d.c2] := Blk.drew (Blk.new _ _ _)
  generalize (V6.alloc (.cells #[.map (some mr), Ptr d.c1, Ptr d.c2] 104)).drew = V8 at hfa hLb ⊢
  have hpt8 := HPT6.out.no hfa
  have hrel8 := HREL.out.fr hfa (fun _ h => h.elim)
  obtain ⟨_, Rb, gs, hrb, hrows⟩ := hrel8
  obtain ⟨kk, f, hm1', hm2'⟩ := HMAP.out
  have hm8 := hm1'.keep (hfa.block mr hm1'.lt (fun h => h))
  have hrl : RelsAt V8 mr V8.heap.size (sz1 m) (sz1 n) (numR m n k) := ⟨kk, f, hm8, fun i a a' e1 e2 => by
    obtain ⟨rfl, rfl⟩ := sz1_some e1
    obtain ⟨_, rfl⟩ := sz1_some e2
    exact ⟨b, Rb, gs, hm2', hrb, hrows.base (Nat.zero_le _), hrows.rows.lt⟩⟩
  have hLf : LfAt d.u d.ml d.mz1 d.mk1 d.c1 d.mz2 d.mk2 d.c2 V6.heap.size mr V8.heap.size d.L d.Q (sz1 m) (sz1 n) (numR m n k) V8 := ⟨hpt8.cs1, hpt8.cs2, hLb, hrl⟩
  have hmlow : d.ml < wr.heap.size ∧ d.mk1 < wr.heap.size ∧ d.mk2 < wr.heap.size := by
    obtain ⟨k1, f1, h1, _⟩ := HPT.out.cs1.kn
    obtain ⟨k2, f2, h2, _⟩ := HPT.out.cs2.kn
    exact ⟨HPT.out.cs1.q.map.lt, h1.lt, h2.lt⟩
  have hmr2 : wr.heap.size ≤ mr := Nat.le_trans HMR.out.2 HMR.out.1
  have hOk : LfOk d.ml d.mz1 d.mk1 d.mz2 d.mk2 mr d.own (sz1 m) (sz1 n) := ⟨hpt8.ok1, hpt8.ok2, hpt8.kk, hpt8.z1, hpt8.z2, by omega, by omega, by omega⟩
  have hF08 : Fr No wr V8 := HF6.out.trans hfa
  have hTZ8 := HTZ.out.fr hF08 (fun h => h)
  have hLC : LC (sz1 m) (sz1 n) (numR m n k) (fun _ => none) No V8 := ⟨fun g t h => (by cases h), hTZ8, rfl⟩
  have CALL := Lib.hid (ofl_any d.lead fresh_nd fresh_own hOk (sz1_sizes hm1 hm) t V8 d.kind (fun _ => none) c c' hLf hpt8.has hLC (fun g ⟨t, h⟩ => by cases h) (Nat.le_refl _) hk1 hk2)
  have HPT8 := Lib.hid hpt8
  have HF8 := Lib.hid hF08
  have HLF8 := Lib.hid hLf
  have s1 : V8.cell? ⟨T, 0, none⟩ = some (Ptr d.kind) := (hpt8.blk.cell 0).trans rfl
  clear hfa hLb hpt8 hrb hrows hm1' hm2' hm8 hrl hLf hmlow hmr2 hOk hF08 hTZ8 hLC s4 s5 s7 HPT6 HF6 HREL HMAP HMR HKB HKL HFV
  go_wp2_with fail
  refine CALL.out.mono ?_
  rintro e w9 ⟨P, F', rfl, hlt9, hlc9, hlf9, _, hF9, hf9⟩
  have hm9 := HLF8.out.maps d.lead
  have nm : ∀ g ty cs, Blk V8 g ty cs → ¬ Three d.ml d.mk1 d.mk2 g := fun g ty cs hb ht => by
    obtain ⟨es, clk, hm⟩ := hm9 g ht
    exact hb.ne_map hm rfl
  have hpt9 : PtIs d w9 T t m n c c' lo hi := by
    have h := HPT8.out
    obtain ⟨s, z, x, y, h1⟩ := h.sl
    obtain ⟨s', z', x', y', h2⟩ := h.sr
    exact ⟨h.blk.fr hf9 (nm _ _ _ h.blk), h.has, hlf9.a, hlf9.b, h.ok1, h.ok2, h.kk, h.z1, h.z2, ⟨s, z, x, y, h1.fr hf9 (nm _ _ _ h1)⟩, ⟨s', z', x', y', h2.fr hf9 (nm _ _ _ h2)⟩, h.low, h.high⟩
  have HE : Hid (LiftP d T t m n c c' lo hi k wr (.returned (Ptr P)) w9) := ⟨P, F', rfl, hlt9, hlc9, fun g hg => Nat.le_trans HF8.out.size (hF9 g hg), (HF8.out.mono (fun _ _ h => h.elim)).trans hf9, hpt9⟩
  clear hlt9 hlc9 hlf9 hF9 hf9 hm9 nm hpt9 CALL s1
  go_wp2_with fail
  go_ret
  exact HE.out

section
variable {μ ν : Nat → Option Nat} {ρ : Nat → Nat → Nat → Bool}
/-- kept where a block of another type is written -/
theorem LC.at {F : Cach} {Z : Nat → Prop} {w w' : World} {P : Nat} {τ : TypeId} {cs0 : Array Value} (h : LC μ ν ρ F Z w) (hP : Blk w P τ cs0) (h1 : τ ≠ 60) (h2 : τ ≠ 63) (hz : 0 ≠ P) (hf : Fr (One P) w w') : LC μ ν ρ F Z w' := by
  have nt : ∀ g ty cs', Blk w g ty cs' → ty ≠ τ → ¬ One P g := fun g ty cs' hg ht e => by
    have e : g = P := e
    subst e
    exact ht (hg.eq hP).1
  refine ⟨fun g t hg => ?_, h.tz.fr hf hz, h.tzF⟩
  obtain ⟨c, c', cs, q1, q2, h3, h4, h5⟩ := h.kept g t hg
  refine ⟨c, c', cs, q1, q2, h3.fr hf (nt _ _ _ h3 h1.symm), h4, fun i v hv => ?_⟩
  rcases h5 i v hv with h | ⟨g, ws, k1, k2, k3, k4⟩
  · exact .inl h
  · exact .inr ⟨g, ws, k1, k2.fr hf (nt _ _ _ k2 h2.symm), k3, k4⟩

/-- kept where rows of integers are written, too -/
theorem LtAt.frX {F : Cach} {Z T : Nat → Prop} {w w' : World} (hf : Fr T w w') (hT : ∀ g ty cs, Blk w g ty cs → (ty ≠ 60 ∨ F g = none) → ty ≠ 3 → ty ≠ 25 → ty ≠ 4 → ¬ T g) : ∀ {t : Ty} {p : Nat}, LtAt μ ν ρ F Z w t p → LtAt μ ν ρ F Z w' t p := by
  have nt : ∀ g ty cs', Blk w g ty cs' → (ty ≠ 60 ∧ ty ≠ 3 ∧ ty ≠ 25 ∧ ty ≠ 4) → ¬ T g := fun g ty cs' hg ht => hT g ty cs' hg (.inl ht.1) ht.2.1 ht.2.2.1 ht.2.2.2
  have rz : ∀ n Q v, RowZ Z w n Q v → RowZ Z w' n Q v := fun n Q v ⟨g, ws, h1, h2, h3, h4⟩ => ⟨g, ws, h1, h2.fr hf (nt _ _ _ h2 (by decide)), h3, h4⟩
  have fs : ∀ g f a b d, FsAt w g f a b d → FsAt w' g f a b d := fun g f a b d ⟨gl, gr, sz, s1, z1, p1, q1, s2, z2, p2, q2, h1, h2, h3⟩ => ⟨gl, gr, sz, s1, z1, p1, q1, s2, z2, p2, q2, h1.fr hf (nt _ _ _ h1 (by decide)), h2.fr hf (nt _ _ _ h2 (by decide)), h3.fr hf (nt _ _ _ h3 (by decide))⟩
  intro t
  induction t with
  | v i =>
    rintro p ⟨gl, gr, R, c, c', cs, h1, h2, h3, ⟨s, z, x, y, h4⟩, ⟨s', z', x', y', h5⟩, h6, h7, h8, h9⟩
    exact ⟨gl, gr, R, c, c', cs, h1, h2, h3.fr hf (nt _ _ _ h3 (by decide)), ⟨s, z, x, y, h4.fr hf (nt _ _ _ h4 (by decide))⟩, ⟨s', z', x', y', h5.fr hf (nt _ _ _ h5 (by decide))⟩, h6, h7.fr hf (hT _ _ _ h7 (.inr h6) (by decide) (by decide) (by decide)), h8, fun i v hv => rz _ _ _ (h9 i v hv)⟩
  | o =>
    rintro p ⟨gl, gr, R, c, c', cs, h1, h2, h3, ⟨s, z, x, y, h4⟩, ⟨s', z', x', y', h5⟩, h6, h7, h8, h9⟩
    exact ⟨gl, gr, R, c, c', cs, h1, h2, h3.fr hf (nt _ _ _ h3 (by decide)), ⟨s, z, x, y, h4.fr hf (nt _ _ _ h4 (by decide))⟩, ⟨s', z', x', y', h5.fr hf (nt _ _ _ h5 (by decide))⟩, h6, h7.fr hf (hT _ _ _ h7 (.inr h6) (by decide) (by decide) (by decide)), h8, fun i v hv => rz _ _ _ (h9 i v hv)⟩
  | n f l r ihl ihr =>
    rintro p ⟨gl, gr, p1, p2, R, a, b, c, a', b', c', h1, h2, h3, h4, h5, h6, h7, h8, h9, h10, h11, h12⟩
    exact ⟨gl, gr, p1, p2, R, a, b, c, a', b', c', h1, h2, h3, h4, h5, h6, h7.fr hf (nt _ _ _ h7 (by decide)), fs _ _ _ _ _ h8, fs _ _ _ _ _ h9, h10, ihl h11, ihr h12⟩
end

/-- what a round of a loop over lifted types keeps; X: rows that a round may change. A type without variables is lifted once, so a round is told of a relation that relates the same. -/
structure LfJ (l : Nat) (X : Nat → Prop) (d : PtD) (T : Nat) (t : Ty) (m n c c' lo hi : Nat) (J : Nat → World → Prop) (Jx : World → Prop) : Prop where
  rows : ∀ k W b, J k W → X b → RowBlk W b
  tab : ¬ X 0
  keep : ∀ k W W' X, J k W → Fr X W W' → (∀ b, X b → lo ≤ b ∧ ∃ es clk, W.heap[b]? = some (.map es clk)) → J k W'
  round : ∀ (k P Bk : Nat) (F : Cach) (R : Nat → Nat → Nat → Bool) (W : World), k < nrel t m n → J k W → l < Bk → Bk ≤ W.heap.size → (∀ g, InF F g → Bk ≤ g) → (∀ x y, relT (sz1 m) (sz1 n) R t x y = relT (sz1 m) (sz1 n) (numR m n k) t x y) → LtAt (sz1 m) (sz1 n) R F No W t P → LC (sz1 m) (sz1 n) R F No W →
    YieldAt Fence.wide 7 Tryz.prog l #[.int .i64 k, Ptr P] W fun e W' => (e = .returned (.bool true) ∧ J (k + 1) W' ∧ Fr (fun b => InF F b ∨ b = l ∨ X b) W W' ∧ (∃ r, W'.heap[l]? = some (.loop r)) ∧ LC (sz1 m) (sz1 n) R F No W') ∨ (e = .returned (.bool false) ∧ Jx W')

/-- the lifted type that a round hands on -/
def LiftedAt (l : Nat) (t : Ty) (m n k : Nat) (v : Value) (W : World) : Prop :=
  ∃ (P Bk : Nat) (F : Cach) (R : Nat → Nat → Nat → Bool), v = Ptr P ∧ l < Bk ∧ Bk ≤ W.heap.size ∧ (∀ g, InF F g → Bk ≤ g) ∧ (∀ x y, relT (sz1 m) (sz1 n) R t x y = relT (sz1 m) (sz1 n) (numR m n k) t x y) ∧ LtAt (sz1 m) (sz1 n) R F No W t P ∧ LC (sz1 m) (sz1 n) R F No W

theorem LiftedAt.next {l : Nat} {t : Ty} {m n k k' : Nat} {v : Value} {W : World} (h : LiftedAt l t m n k v W) (hv : addV [] t = []) : LiftedAt l t m n k' v W := by
  obtain ⟨P, Bk, F, R, h1, h2, h3, h4, h5, h6, h7⟩ := h
  have hf : ∀ i, ¬ t.has i := fun i hi => by
    have := (addV_mem t [] i).2 (.inr hi)
    rw [hv] at this
    cases this
  exact ⟨P, Bk, F, R, h1, h2, h3, h4, fun x y => relT_free hf x y, h6, h7⟩

set_option maxRecDepth 100000 in
set_option maxHeartbeats 4000000 in
theorem lifts_in (l B : Nat) (X : Nat → Prop) (d : PtD) (T : Nat) (t : Ty) (m n c c' lo hi : Nat) (J : Nat → World → Prop) (Jx : World → Prop) (hJ : LfJ l X d T t m n c c' lo hi J Jx) (ht : t.size ≤ 40) (hm1 : 1 ≤ m) (hm : m ≤ 3) (hn1 : 1 ≤ n) (hn : n ≤ 3) (hk1 : t.kn (sz1 m) = some c) (hk2 : t.kn (sz1 n) = some c')
    (w : World) (h0 : J 0 w) (hP : PtIs d w T t m n c c' lo hi) (hbox : Blk w B 73 #[Ptr T]) (hT : TZt w) (hl : hi ≤ l) (hlp : ∃ r, w.heap[l]? = some (.loop r)) (htz : 0 < hi) :
    CallsIn Fence.wide 8 Tryz.prog 61 #[.func (.yield l) #[] #[], Ptr B] w fun e W' => (∃ v, e = .returned v) ∧ (J (nrel t m n) W' ∨ Jx W') := by
  have VA := Lib.hid (vars_any w d.q d.mm d.ps d.D t d.kind hP.cs1.q.pool hP.has (by omega))
  have LIFT : Hid (∀ (W : World) (k : Nat), PtIs d W T t m n c c' lo hi → TZt W → k < nrel t m n → Calls Tryz.prog 63 #[Ptr T, .int .i64 k] W fun e w' => LiftP d T t m n c c' lo hi k W e w') := fun W k h1 h2 h3 => lift_any d T t m n c c' lo hi k W h1 hm1 hm hn1 hn hk1 hk2 h2 h3
  have HJ := Lib.hid hJ
  have H0 := Lib.hid h0
  have HP := Lib.hid hP
  have HBOX := Lib.hid hbox
  have HT := Lib.hid hT
  have HLP := Lib.hid hlp
  have hmn9 : m * n ≤ 9 := Nat.le_trans (Nat.mul_le_mul hm hn) (by decide)
  have HNR : Hid (nrel t m n ≤ 512) := by
    show _ ≤ _
    exact Nat.le_trans (Nat.pow_le_pow_right (by decide) hmn9) (by decide)
  have b0 : w.cell? ⟨B, 0, none⟩ = some (Ptr T) := (hbox.cell 0).trans rfl
  have c0 : w.cell? ⟨T, 0, none⟩ = some (Ptr d.kind) := (hP.blk.cell 0).trans rfl
  clear hJ h0 hP hbox hT hlp
  refine callsIn_of_wp Tryz.func61 rfl trivial ?_ rfl
  simp only [Tryz.ntmps61, List.size_toArray, List.length_cons, List.length_nil, Nat.reduceAdd, Nat.reduceSub, Array.replicate_succ, Array.replicate_zero, List.push_toArray, List.append_toArray, List.nil_append, List.cons_append]
  gi_wp2_with fail
  refine ⟨trivial, (callsIn_wide.2 VA.out).mono ?_⟩
  rintro e w1 ⟨A, xs, cc, rfl, _, hB, _, hva⟩
  have hf1 : Fr No w w1 := Fr.of_below hB (Nat.le_refl _) _
  have hlen := hva.1
  obtain ⟨same, hsame, hsv⟩ : ∃ same : Bool, ((xs.length : Int) == 0) = same ∧ (same = true → addV [] t = []) := by
    refine ⟨_, rfl, fun h => ?_⟩
    have h := eq_of_beq h
    have : xs.length = 0 := by omega
    rw [hlen] at this
    exact List.length_eq_zero_iff.1 this
  have HSV := Lib.hid hsv
  have HF1 := Lib.hid hf1
  have HJ1 : Hid (J 0 w1) := HJ.out.keep 0 w w1 No H0.out hf1 (fun _ h => h.elim)
  have hpt1 := HP.out.no hf1
  have HP1 := Lib.hid hpt1
  have HB1 := Lib.hid (HBOX.out.fr hf1 (fun h => h))
  have HT1 := Lib.hid (HT.out.fr hf1 (fun h => h))
  have HL1 : Hid (∃ r, w1.heap[l]? = some (.loop r)) := by
    obtain ⟨r, hr⟩ := HLP.out
    exact ⟨r, (hf1.block l (Array.getElem?_eq_some_iff.1 hr).1 (fun h => h)).trans hr⟩
  have b1 : w1.cell? ⟨B, 0, none⟩ = some (Ptr T) := (HB1.out.cell 0).trans rfl
  have c2 : w1.cell? ⟨T, 2, none⟩ = some (.int .i64 m) := (hpt1.blk.cell 2).trans rfl
  have c3 : w1.cell? ⟨T, 3, none⟩ = some (.int .i64 n) := (hpt1.blk.cell 3).trans rfl
  clear hf1 b0 c0 VA hB hva hlen hsv hpt1 H0 HP HBOX HT HLP
  gi_wp2_with fail
  rename_i Ks hKs
  refine wpIn_wide.2 ?_
  go_quiet (fail)
  have hsh : wrap64 (2 ^ (m * n)) = ((nrel t m n : Nat) : Int) := by
    have hm' : m = 1 ∨ m = 2 ∨ m = 3 := by omega
    have hn' : n = 1 ∨ n = 2 ∨ n = 3 := by omega
    rcases hm' with rfl | rfl | rfl <;> rcases hn' with rfl | rfl | rfl <;> simp [nrel, wrap64]
  rw [hsh]
  refine hKs _ _ ?_
  clear hKs Ks hsh b1 c2 c3
  have hf2 : Fr No w1 (w1.drewN nq) := (Fr.refl No w1).drewN nq
  have hj2 : J 0 (w1.drewN nq) := HJ.out.keep 0 w1 _ No HJ1.out hf2 (fun _ h => h.elim)
  have hpt2 := HP1.out.no hf2
  have hbx2 := HB1.out.fr hf2 (fun h => h)
  have htz2 := HT1.out.fr hf2 (fun h => h)
  have hl2 : ∃ r, (w1.drewN nq).heap[l]? = some (.loop r) := HL1.out
  generalize (w1.drewN nq) = w2 at hf2 hj2 hpt2 hbx2 htz2 hl2 ⊢
  have HJ2 := Lib.hid hj2
  have HP2 := Lib.hid hpt2
  have HB2 := Lib.hid hbx2
  have HT2 := Lib.hid htz2
  have HL2 := Lib.hid hl2
  clear hf2 hj2 hpt2 hbx2 htz2 hl2 HJ1 HP1 HB1 HT1 HL1 HF1 hsame
  have hnr := HNR.out
  generalize hNR : nrel t m n = NR at *
  have HNE := Lib.hid hNR
  clear hNR
  gi_wp2_with fail
  gi_loopg [4, 23] NR (fun gk v u W => ∃ k : Nat, k + gk = NR ∧ u = .int .i64 k ∧ ((v = .pointer none ∧ k = 0) ∨ (∃ k0, LiftedAt l t m n k0 v W ∧ (same = false ∨ k0 = k))) ∧ J k W ∧ PtIs d W T t m n c c' lo hi ∧ Blk W B 73 #[Ptr T] ∧ TZt W ∧ ∃ r, W.heap[l]? = some (.loop r))
  case atStart => exact ⟨0, by omega, rfl, .inl ⟨rfl, rfl⟩, HJ2.out, HP2.out, HB2.out, HT2.out, HL2.out⟩
  case round =>
    obtain ⟨k, hk, rfl, hv, hj, hpt, hbx, htz', hlr⟩ := hrel
    have HJK := Lib.hid hj
    have HPT := Lib.hid hpt
    have HBX := Lib.hid hbx
    have HTZ := Lib.hid htz'
    have HLR := Lib.hid hlr
    clear hj hpt hbx htz' hlr HJ2 HP2 HB2 HT2 HL2
    by_cases hlt : k < NR
    · have hkI : (k : Int) < (NR : Int) := by omega
      have STEP : Hid (∀ (v : Value) (W : World), LiftedAt l t m n k v W → J k W → PtIs d W T t m n c c' lo hi → Blk W B 73 #[Ptr T] → TZt W → (∃ r, W.heap[l]? = some (.loop r)) → ∃ P : Nat, v = Ptr P ∧ YieldAt Fence.wide 7 Tryz.prog l #[.int .i64 k, Ptr P] W fun e W' => (e = .returned (.bool true) ∧ Hid (LiftedAt l t m n k v W' ∧ J (k + 1) W' ∧ PtIs d W' T t m n c c' lo hi ∧ Blk W' B 73 #[Ptr T] ∧ TZt W' ∧ ∃ r, W'.heap[l]? = some (.loop r))) ∨ (e = .returned (.bool false) ∧ Hid (Jx W'))) := by
        rintro v W ⟨P, Bk, F, R, rfl, hlB, hBs, hFB, hRE, hLT, hLC⟩ hjW hptW hbxW htzW hlW
        refine ⟨P, rfl, (HJ.out.round k P Bk F R W (by rw [HNE.out]; exact hlt) hjW hlB hBs hFB hRE hLT hLC).mono ?_⟩
        rintro e W3 (⟨rfl, hj3, hf3, hl3, hlc3⟩ | ⟨rfl, hx⟩)
        · refine .inl ⟨rfl, ?_⟩
          obtain ⟨r, hr⟩ := hlW
          have hX9 : ∀ b, X b → RowBlk W b := fun b hb => HJ.out.rows k W b hjW hb
          have hX1 : ∀ b, (InF F b ∨ b = l ∨ X b) → hi ≤ b ∨ RowBlk W b := fun b hb => by
            rcases hb with hb | hb | hb
            · have := hFB b hb; left; omega
            · left; omega
            · exact .inr (hX9 b hb)
          have nB : ∀ g ty cs, Blk W g ty cs → (ty ≠ 60 ∨ F g = none) → ty ≠ 3 → ty ≠ 25 → ty ≠ 4 → ¬ (InF F g ∨ g = l ∨ X g) := fun g ty cs hb h1 h3 h4 h5 h => by
            rcases h with h | h | h
            · exact hLC.far g ty cs hb h1 (fun _ h => h) h
            · exact hb.ne_of hr (fun _ h => by cases h) h
            · exact (hX9 g h).ne hb h3 h4 h5 rfl
          have hpt3 := hptW.frX hf3 hX1 (fun g ty cs hb h => nB g ty cs hb (.inl (by rcases h with rfl | rfl | rfl <;> decide)) (by rcases h with rfl | rfl | rfl <;> decide) (by rcases h with rfl | rfl | rfl <;> decide) (by rcases h with rfl | rfl | rfl <;> decide))
          refine ⟨⟨P, Bk, F, R, rfl, hlB, Nat.le_trans hBs hf3.size, hFB, hRE, hLT.frX hf3 (fun g ty cs hb h1 h3 h4 h5 => nB g ty cs hb h1 h3 h4 h5), hlc3⟩, hj3, hpt3, hbxW.fr hf3 (nB _ _ _ hbxW (.inl (by decide)) (by decide) (by decide) (by decide)), htzW.fr hf3 ?_, hl3⟩
          rintro (⟨t, h⟩ | h | h)
          · rw [hLC.tzF] at h; cases h
          · omega
          · exact HJ.out.tab h
        · exact .inr ⟨rfl, hx⟩
      have LFT : Hid (Calls Tryz.prog 63 #[Ptr T, .int .i64 k] wr fun e w' => ∃ P : Nat, e = .returned (Ptr P) ∧ Hid (LiftedAt l t m n k (Ptr P) w' ∧ J k w' ∧ PtIs d w' T t m n c c' lo hi ∧ Blk w' B 73 #[Ptr T] ∧ TZt w' ∧ ∃ r, w'.heap[l]? = some (.loop r))) := by
        refine (LIFT.out wr k HPT.out HTZ.out hlt).mono ?_
        rintro e w' ⟨P, F, rfl, hlt', hlc', hF', hf', hpt'⟩
        have hm := HPT.out.maps
        have nm : ∀ g ty cs, Blk wr g ty cs → ¬ Three d.ml d.mk1 d.mk2 g := fun g ty cs hb ht => by
          obtain ⟨_, es, clk, hm⟩ := hm g ht
          exact hb.ne_map hm rfl
        obtain ⟨r, hr⟩ := HLR.out
        have hlB := (Array.getElem?_eq_some_iff.1 hr).1
        refine ⟨P, rfl, ⟨P, wr.heap.size, F, _, rfl, hlB, hf'.size, hF', fun _ _ => rfl, hlt', hlc'⟩, HJ.out.keep k wr w' _ HJK.out hf' hm, hpt', HBX.out.fr hf' (nm _ _ _ HBX.out), hlc'.tz, r, (hf'.block l hlB (fun h => by obtain ⟨_, es, clk, hm⟩ := hm l h; rw [hr] at hm; cases hm)).trans hr⟩
      have NXT : Hid (∀ v W, LiftedAt l t m n k v W → ∃ k0, LiftedAt l t m n k0 v W ∧ (same = false ∨ k0 = k + 1)) := fun v W h => by
        cases same
        · exact ⟨k, h, .inl rfl⟩
        · exact ⟨k + 1, h.next (HSV.out rfl), .inr rfl⟩
      have s0 : wr.cell? ⟨B, 0, none⟩ = some (Ptr T) := (HBX.out.cell 0).trans rfl
      rcases hv with ⟨rfl, hk0⟩ | ⟨k0, hla, hs⟩
      · clear hk0
        gi_wp2_with fail
        refine ⟨trivial, (callsIn_wide.2 LFT.out).mono ?_⟩
        rintro e w9 ⟨P, rfl, H9⟩
        obtain ⟨P1, hP1, fn, tmps, assign, body, hy, hR⟩ := STEP.out (Ptr P) w9 H9.out.1 H9.out.2.1 H9.out.2.2.1 H9.out.2.2.2.1 H9.out.2.2.2.2.1 H9.out.2.2.2.2.2
        injection hP1 with hP1
        injection hP1 with hP1
        injection hP1 with hP1
        subst hP1
        gi_wp2_with fail
        refine hR.mono ?_
        rintro e W3 (⟨rfl, H3⟩ | ⟨rfl, HX⟩)
        · clear hy hR
          gi_wp2_with fail
          go_roundg (NR - (k + 1))
          case measure => omega
          case rel => exact ⟨k + 1, by omega, by go_num, .inr (NXT.out _ _ H3.out.1), H3.out.2⟩
        · clear hy hR
          gi_wp2_with fail
          refine bodyPost_ret (results_none rfl _ _ _) rfl ?_
          exact ⟨⟨_, rfl⟩, .inr HX.out⟩
      · obtain ⟨P0, hp0⟩ : ∃ P0, u4 = Ptr P0 := by
          obtain ⟨P, _, _, _, h, _⟩ := hla
          exact ⟨P, h⟩
        subst hp0
        have HLA := Lib.hid hla
        clear hla
        cases same
        · clear hs
          gi_wp2_with fail
          refine ⟨trivial, (callsIn_wide.2 LFT.out).mono ?_⟩
          rintro e w9 ⟨P, rfl, H9⟩
          obtain ⟨P1, hP1, fn, tmps, assign, body, hy, hR⟩ := STEP.out (Ptr P) w9 H9.out.1 H9.out.2.1 H9.out.2.2.1 H9.out.2.2.2.1 H9.out.2.2.2.2.1 H9.out.2.2.2.2.2
          injection hP1 with hP1
          injection hP1 with hP1
          injection hP1 with hP1
          subst hP1
          gi_wp2_with fail
          refine hR.mono ?_
          rintro e W3 (⟨rfl, H3⟩ | ⟨rfl, HX⟩)
          · clear hy hR
            gi_wp2_with fail
            go_roundg (NR - (k + 1))
            case measure => omega
            case rel => exact ⟨k + 1, by omega, by go_num, .inr (NXT.out _ _ H3.out.1), H3.out.2⟩
          · clear hy hR
            gi_wp2_with fail
            refine bodyPost_ret (results_none rfl _ _ _) rfl ?_
            exact ⟨⟨_, rfl⟩, .inr HX.out⟩
        · obtain rfl : k = k0 := hs.elim (fun h => by cases h) Eq.symm
          clear hs
          gi_wp2_with fail
          obtain ⟨P1, hP1, fn, tmps, assign, body, hy, hR⟩ := STEP.out (Ptr P0) wr HLA.out HJK.out HPT.out HBX.out HTZ.out HLR.out
          injection hP1 with hP1
          injection hP1 with hP1
          injection hP1 with hP1
          subst hP1
          gi_wp2_with fail
          refine hR.mono ?_
          rintro e W3 (⟨rfl, H3⟩ | ⟨rfl, HX⟩)
          · clear hy hR
            gi_wp2_with fail
            go_roundg (NR - (k + 1))
            case measure => omega
            case rel => exact ⟨k + 1, by omega, by go_num, .inr (NXT.out _ _ H3.out.1), H3.out.2⟩
          · clear hy hR
            gi_wp2_with fail
            refine bodyPost_ret (results_none rfl _ _ _) rfl ?_
            exact ⟨⟨_, rfl⟩, .inr HX.out⟩
    · have hkN : k = NR := by omega
      have HE : Hid (J (nrel t m n) wr) := by show J _ _; rw [HNE.out, ← hkN]; exact HJK.out
      have hnlt : ¬ (k : Int) < (NR : Int) := by omega
      clear hkN hv
      gi_wp2_with fail
      go_end0
      exact ⟨⟨_, rfl⟩, .inl HE.out⟩
end Go.Proofs.YtloecimlimoanaaGreatDoor

/- ParamPair of the program. -/
namespace Go.Proofs.YtloecimlimoanaaGreatDoor
open Go.RowKit Go.ChangeMaps Go.Shelf

attribute [local go_sem] Oper.semAt_some

/-- two elements are parametric together -/
def PairIs (s : List UInt8) (m n x y : Int) : Prop := ∃ (t : Ty) (mN nN c c' xN yN : Nat), Ty.Is s t ∧ OnlyA t ∧ m = mN ∧ n = nN ∧ In3 m n ∧ t.kn (sz1 mN) = some c ∧ t.kn (sz1 nN) = some c' ∧ x = xN ∧ y = yN ∧ xN < c ∧ yN < c' ∧ ∀ k, k < nrel t mN nN → relT (sz1 mN) (sz1 nN) (numR mN nN k) t xN yN = true

theorem PairIs.data {s : List UInt8} {mN nN : Nat} {x y : Int} {t : Ty} {c c' : Nat} (h : PairIs s mN nN x y) (hi : Ty.Is s t) (hk1 : t.kn (sz1 mN) = some c) (hk2 : t.kn (sz1 nN) = some c') : ∃ xN yN : Nat, x = xN ∧ y = yN ∧ xN < c ∧ yN < c' ∧ ∀ k, k < nrel t mN nN → relT (sz1 mN) (sz1 nN) (numR mN nN k) t xN yN = true := by
  obtain ⟨t', mN', nN', d, d', xN, yN, h1, _, h3, h4, _, h6, h7, h8, h9, h10, h11, h12⟩ := h
  have := h1.unique hi
  subst this
  have e1 : mN' = mN := by omega
  have e2 : nN' = nN := by omega
  subst e1 e2
  rw [hk1] at h6; injection h6 with h6; subst h6
  rw [hk2] at h7; injection h7 with h7; subst h7
  exact ⟨xN, yN, h8, h9, h10, h11, h12⟩

theorem lifts_any (w : World) (T : Nat) : Calls Tryz.prog 37 #[Ptr T] w fun e w' => e = .returned (.func (.func 61) #[] #[Ptr w.heap.size]) ∧ w' = w.alloc (.cells #[Ptr T] 73) := by
  go_enter Tryz.func37, Tryz.ntmps37
  go_wp2_with fail
  go_ret
  exact ⟨rfl, rfl⟩

theorem results_cellv {P : Program} {fn : Func} {p : Tmp} {ty : TypeId} (h : fn.results = #[.cell p ty]) (tmps : Array Value) (w : World) (a : Addr) (v : Value) (hp : tmps.getD p undef = .pointer (some a)) (hu : (isAgg ty).run P w = .ok false w) (hc : w.cell? a = some v) : (results fn tmps).run P w = .ok v w := by
  have hp' : tmps[p]?.getD undef = .pointer (some a) := by simpa using hp
  have hl : (loadVar ty a).run P w = .ok v w := by simp [loadVar, hu, hc]
  simp [results, h, hp', asAddr, hl]

theorem agg_bool (w : World) : (isAgg 4).run Tryz.prog w = .ok false w := by kernel_rfl

/-- between two lifted types -/
structure PJ (w : World) (t : Ty) (m n x y D : Nat) (rec : LoopState → Option Code → Loop) (k : Nat) (W : World) : Prop where
  fr : Fr No w W
  bx : Blk W w.heap.size 3 #[.int .i64 x]
  by_ : Blk W (w.heap.size + 1) 3 #[.int .i64 y]
  br : Blk W (w.heap.size + 2) 4 #[.bool false]
  lp : W.heap[D + 1]? = some (.loop (rec .ready none))
  df : W.heap[D]? = some (.deferred (some []))
  sz : D + 2 ≤ W.heap.size
  ok : ∀ k', k' < k → relT (sz1 m) (sz1 n) (numR m n k') t x y = true

/-- behind the one that fails -/
structure PX (w : World) (t : Ty) (m n x y D : Nat) (rec : LoopState → Option Code → Loop) (W : World) : Prop where
  fr : Fr No w W
  br : Blk W (w.heap.size + 2) 4 #[.bool false]
  lp : W.heap[D + 1]? = some (.loop (rec .done (some .ret)))
  df : W.heap[D]? = some (.deferred (some []))
  sz : D + 2 ≤ W.heap.size
  no : ∃ k', k' < nrel t m n ∧ relT (sz1 m) (sz1 n) (numR m n k') t x y = false

end Go.Proofs.YtloecimlimoanaaGreatDoor
