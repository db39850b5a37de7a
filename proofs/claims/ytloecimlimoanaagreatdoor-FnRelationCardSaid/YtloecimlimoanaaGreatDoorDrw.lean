/- The draws of the laws: a reader of a code, and what it picks. -/
import Derived.Test.YtloecimlimoanaaGreatDoorPre
import Derived.Laws.BitsAllLaws
import Derived.BigQuiet
namespace Go.Proofs.YtloecimlimoanaaGreatDoor
open Go.RowKit Go.ChangeMaps

theorem i64_xor_nat (a b : Nat) (ha : a < 1000000000) (hb : b < 1000000000) : bits .xor .i64 (a : Int) (b : Int) = ((a ^^^ b : Nat) : Int) := by
  have hx : a ^^^ b < 2 ^ 30 := Nat.xor_lt_two_pow (by omega) (by omega)
  show IntKind.i64.wrap ((BitVec.ofInt 64 (a : Int) ^^^ BitVec.ofInt 64 (b : Int)).toNat : Int) = _
  rw [BitVec.toNat_xor, ofInt_u64 a (by omega), ofInt_u64 b (by omega), IntKind.wrap_i64]
  omega

/-- the slice at A is n bytes -/
def Byt (w : World) (A : Option Addr) (n : Nat) : Prop := ∀ j, j < n → ∃ g o, ∃ x : Nat, A = some ⟨g, o, none⟩ ∧ x < 256 ∧ w.cell? ⟨g, o + j, none⟩ = some (.int .u8 (x : Int))

/-- a reader of a code -/
structure Rdc (w : World) (r : Nat) (A : Option Addr) (n c p : Nat) : Prop where
  blk : Blk w r 72 #[.slice A n c, .int .i64 (p : Int)]
  byt : Byt w A n
  small : n ≤ 2000
  apart : 0 < n → ∀ g o, A = some ⟨g, o, none⟩ → g ≠ r

theorem Rdc.fr {w w' : World} {r : Nat} {A : Option Addr} {n c p : Nat} {T : Nat → Prop} (h : Rdc w r A n c p) (hf : Fr T w w') (hr : ¬ T r) (hA : ∀ g o, A = some ⟨g, o, none⟩ → ¬ T g) : Rdc w' r A n c p := by
  refine ⟨h.blk.fr hf hr, fun j hj => ?_, h.small, h.apart⟩
  obtain ⟨g, o, x, e, hx, hc⟩ := h.byt j hj
  exact ⟨g, o, x, e, hx, (hf.cell (p := ⟨g, o + j, none⟩) (World.block_lt_of_cell? w _ hc) (hA g o e)).trans hc⟩

def PickP (r : Nat) (A : Option Addr) (n c p k : Nat) (w : World) (e : Ending) (w' : World) : Prop := ∃ z : Nat, e = .returned (.int .i64 (z : Int)) ∧ z < k ∧ Fr (One r) w w' ∧ Rdc w' r A n c (p + 1)

set_option maxRecDepth 100000 in
set_option maxHeartbeats 2000000 in
theorem pick_any (w : World) (r : Nat) (A : Option Addr) (n c p k : Nat) (h : Rdc w r A n c p) (hk : 1 ≤ k) (hk2 : k ≤ 1000) (hp : p ≤ 100000) :
    Calls Tryz.prog 57 #[Ptr r, .int .i64 k] w fun e w' => PickP r A n c p k w e w' := by
  have c1 : w.cell? ⟨r, 1, none⟩ = some (.int .i64 (p : Int)) := (h.blk.cell 1).trans rfl
  have f1 := h.blk.frozen 1
  have lt := h.blk.lt
  have hsm := h.small
  have p1 : (p : Int) ≤ 100000 := by omega
  have k1 : (1 : Int) ≤ (k : Int) := by omega
  have k2 : (k : Int) ≤ 1000 := by omega
  have n1 : (n : Int) ≤ 2000 := by omega
  -- the world behind the count
  have hf : Fr (One r) w (w.setCell ⟨r, 1, none⟩ (.int .i64 ((p : Int) + 1))) := (Fr.refl (One r) w).setCell (p := ⟨r, 1, none⟩) (.inl rfl) _
  have hR : Rdc (w.setCell ⟨r, 1, none⟩ (.int .i64 ((p : Int) + 1))) r A n c (p + 1) := by
    refine ⟨h.blk.set_ 1 (.int .i64 ((p : Int) + 1)), fun j hj => ?_, h.small, h.apart⟩
    obtain ⟨g, o, x, e, hx, hc⟩ := h.byt j hj
    exact ⟨g, o, x, e, hx, (hf.cell (p := ⟨g, o + j, none⟩) (World.block_lt_of_cell? w _ hc) (fun e2 => h.apart (by omega) g o e e2)).trans hc⟩
  have d0 : (w.setCell ⟨r, 1, none⟩ (.int .i64 ((p : Int) + 1))).cell? ⟨r, 0, none⟩ = some (.slice A n c) := (hR.blk.cell 0).trans rfl
  have d1 : (w.setCell ⟨r, 1, none⟩ (.int .i64 ((p : Int) + 1))).cell? ⟨r, 1, none⟩ = some (.int .i64 ((p : Int) + 1)) := (hR.blk.cell 1).trans rfl
  have dl := hR.blk.lt
  have FIN : Hid (∀ z : Nat, z < k → PickP r A n c p k w (.returned (.int .i64 (z : Int))) (w.setCell ⟨r, 1, none⟩ (.int .i64 ((p : Int) + 1)))) := fun z hz => ⟨z, rfl, hz, hf, hR⟩
  have FIN2 : Hid (∀ (z m : Nat), z < k → PickP r A n c p k w (.returned (.int .i64 (z : Int))) ((w.setCell ⟨r, 1, none⟩ (.int .i64 ((p : Int) + 1))).drewN m)) := fun z m hz => ⟨z, rfl, hz, hf.drewN m, hR.fr (T := No) ((Fr.refl _ _).drewN m) (fun h => h) (fun _ _ _ h => h)⟩
  have HBY : Hid (Byt (w.setCell ⟨r, 1, none⟩ (.int .i64 ((p : Int) + 1))) A n) := hR.byt
  by_cases hn0 : n = 0
  · subst hn0
    clear h hf hR
    go_enter Tryz.func57, Tryz.ntmps57
    go_wp2_with fail
    go_ret
    exact FIN.out 0 (by omega)
  · have hn1 : ((n : Int) == 0) = false := beq_eq_false_iff_ne.2 (by omega)
    have hn2 : (1 : Int) ≤ (n : Int) := by omega
    by_cases hpn : p < n
    · obtain ⟨g, o, x, rfl, hx, hc⟩ := HBY.out p hpn
      have hlg := World.block_lt_of_cell? _ _ hc
      obtain ⟨z, hz⟩ : ∃ z, z = x % k := ⟨_, rfl⟩
      have m1 : (x : Int).tmod (k : Int) = (z : Int) := by rw [hz]; rfl
      have hzk : z < k := by rw [hz]; exact Nat.mod_lt _ (by omega)
      have x1 : (x : Int) ≤ 255 := by omega
      have w1 : IntKind.i64.wrap (x : Int) = (x : Int) := IntWalk.i64_in _ (by omega)
      have w2 : IntKind.i64.wrap (z : Int) = (z : Int) := IntWalk.i64_in _ (by omega)
      clear h hf hR hz
      go_enter Tryz.func57, Tryz.ntmps57
      go_wp2_with fail
      go_ret
      exact FIN.out z hzk
    · obtain ⟨i1, hi1⟩ : ∃ i, i = p % n := ⟨_, rfl⟩
      obtain ⟨i2, hi2⟩ : ∃ i, i = (p * 7 + 3) % n := ⟨_, rfl⟩
      obtain ⟨q, hq⟩ : ∃ q, q = p / n := ⟨_, rfl⟩
      have l1 : i1 < n := by rw [hi1]; exact Nat.mod_lt _ (by omega)
      have l2 : i2 < n := by rw [hi2]; exact Nat.mod_lt _ (by omega)
      have hq2 : q ≤ 100000 := by rw [hq]; exact Nat.le_trans (Nat.div_le_self _ _) hp
      obtain ⟨g, o, x1, rfl, hx1, hc1⟩ := HBY.out i1 l1
      obtain ⟨g', o', x2, e, hx2, hc2⟩ := HBY.out i2 l2
      obtain ⟨rfl, rfl⟩ : g = g' ∧ o = o' := by
        simp only [Option.some.injEq, Addr.mk.injEq, and_true] at e
        exact e
      have hlg := World.block_lt_of_cell? _ _ hc1
      obtain ⟨X, hX⟩ : ∃ X, X = x1 * 131 + x2 * 1117 + p * 29 + q * 53 := ⟨_, rfl⟩
      obtain ⟨X2, hX2⟩ : ∃ Z, Z = X / 64 := ⟨_, rfl⟩
      obtain ⟨y, hy⟩ : ∃ y, y = X ^^^ X2 := ⟨_, rfl⟩
      obtain ⟨z, hz⟩ : ∃ z, z = y % k := ⟨_, rfl⟩
      have hXl : X < 1000000000 := by omega
      have hyl : y < 2 ^ 30 := by rw [hy]; exact Nat.xor_lt_two_pow (by omega) (by omega)
      have hzk : z < k := by rw [hz]; exact Nat.mod_lt _ (by omega)
      have m1 : (p : Int).tmod (n : Int) = (i1 : Int) := by rw [hi1]; rfl
      have a1 : IntKind.i64.wrap ((p : Int) * 7) = (p : Int) * 7 := IntWalk.i64_in _ (by omega)
      have a2 : IntKind.i64.wrap ((p : Int) * 7 + 3) = (p : Int) * 7 + 3 := IntWalk.i64_in _ (by omega)
      have m2 : ((p : Int) * 7 + 3).tmod (n : Int) = (i2 : Int) := by rw [hi2]; rfl
      have m3 : (p : Int).tdiv (n : Int) = (q : Int) := by rw [hq]; rfl
      have a0 : IntKind.i64.wrap (p : Int) = (p : Int) := IntWalk.i64_in _ (by omega)
      have a3 : IntKind.i64.wrap (q : Int) = (q : Int) := IntWalk.i64_in _ (by omega)
      have a4 : IntKind.i64.wrap (x1 : Int) = (x1 : Int) := IntWalk.i64_in _ (by omega)
      have a5 : IntKind.i64.wrap (x2 : Int) = (x2 : Int) := IntWalk.i64_in _ (by omega)
      have a6 : IntKind.i64.wrap ((x1 : Int) * 131) = (x1 : Int) * 131 := IntWalk.i64_in _ (by omega)
      have a7 : IntKind.i64.wrap ((x2 : Int) * 1117) = (x2 : Int) * 1117 := IntWalk.i64_in _ (by omega)
      have a8 : IntKind.i64.wrap ((x1 : Int) * 131 + (x2 : Int) * 1117) = (x1 : Int) * 131 + (x2 : Int) * 1117 := IntWalk.i64_in _ (by omega)
      have a9 : IntKind.i64.wrap ((p : Int) * 29) = (p : Int) * 29 := IntWalk.i64_in _ (by omega)
      have a10 : IntKind.i64.wrap ((x1 : Int) * 131 + (x2 : Int) * 1117 + (p : Int) * 29) = (x1 : Int) * 131 + (x2 : Int) * 1117 + (p : Int) * 29 := IntWalk.i64_in _ (by omega)
      have a11 : IntKind.i64.wrap ((q : Int) * 53) = (q : Int) * 53 := IntWalk.i64_in _ (by omega)
      have a12 : IntKind.i64.wrap ((x1 : Int) * 131 + (x2 : Int) * 1117 + (p : Int) * 29 + (q : Int) * 53) = (X : Int) := by rw [IntWalk.i64_in _ (by omega), hX]; omega
      have m4 : (X : Int).tdiv 64 = (X2 : Int) := by rw [hX2]; rfl
      have a13 : IntKind.i64.wrap (X2 : Int) = (X2 : Int) := IntWalk.i64_in _ (by omega)
      have m5 : bits .xor .i64 (X : Int) (X2 : Int) = (y : Int) := by rw [hy]; exact i64_xor_nat X X2 hXl (by omega)
      have m6 : (y : Int).tmod (k : Int) = (z : Int) := by rw [hz]; rfl
      have a14 : IntKind.i64.wrap (z : Int) = (z : Int) := IntWalk.i64_in _ (by omega)
      have j1 : (0 : Int) ≤ (i1 : Int) := by omega
      have j2 : (i1 : Int) < (n : Int) := by omega
      have j3 : (0 : Int) ≤ (i2 : Int) := by omega
      have j4 : (i2 : Int) < (n : Int) := by omega
      have j5 : (n : Int) ≠ 0 := by omega
      have j6 : (k : Int) ≠ 0 := by omega
      clear h hf hR hz hy hX hX2 hi1 hi2 hq e hyl hXl
      go_enter Tryz.func57, Tryz.ntmps57
      go_wp2_with fail
      go_quiet (fail)
      go_wp2_with fail
      go_ret
      exact FIN2.out z _ hzk

/-- the slice at A is a list of texts -/
def TxS (w : World) (A : Option Addr) (ls : List (List UInt8)) : Prop := ∀ j x, ls[j]? = some x → ∃ g o, A = some ⟨g, o, none⟩ ∧ w.cell? ⟨g, o + j, none⟩ = some (S x)

def OfP (r : Nat) (A : Option Addr) (n c p : Nat) (ls : List (List UInt8)) (w : World) (e : Ending) (w' : World) : Prop := ∃ x, e = .returned (S x) ∧ x ∈ ls ∧ Fr (One r) w w' ∧ Rdc w' r A n c (p + 1)

set_option maxRecDepth 100000 in
set_option maxHeartbeats 1000000 in
theorem rdOf_any (w : World) (r : Nat) (A : Option Addr) (n c p : Nat) (g o lc : Nat) (ls : List (List UInt8)) (l : Nat) (hl : l = ls.length) (h : Rdc w r A n c p) (hk : 1 ≤ l) (hk2 : l ≤ 1000) (hp : p ≤ 100000) (hx : TxS w (some ⟨g, o, none⟩) ls) (hg : g ≠ r) :
    Calls Tryz.prog 55 #[Ptr r, .slice (some ⟨g, o, none⟩) l lc] w fun e w' => OfP r A n c p ls w e w' := by
  have PK := Lib.hid (pick_any w r A n c p l h hk hk2 hp)
  have HX := Lib.hid hx
  have HL := Lib.hid hl
  clear h hl hx
  go_enter Tryz.func55, Tryz.ntmps55
  go_wp2_with fail
  refine PK.out.mono ?_
  rintro e w1 ⟨z, rfl, hz, hf, hr⟩
  obtain ⟨x, hxz⟩ : ∃ x, ls[z]? = some x := ⟨_, List.getElem?_eq_getElem (by rw [← HL.out]; exact hz)⟩
  obtain ⟨g', o', e, hc⟩ := HX.out z x hxz
  obtain ⟨rfl, rfl⟩ : g = g' ∧ o = o' := by
    simp only [Option.some.injEq, Addr.mk.injEq, and_true] at e
    exact e
  have hc1 : w1.cell? ⟨g, o + z, none⟩ = some (S x) := (hf.cell (p := ⟨g, o + z, none⟩) (World.block_lt_of_cell? w _ hc) (fun e => hg e)).trans hc
  have hlg := World.block_lt_of_cell? _ _ hc1
  have z1 : (z : Int) < (l : Int) := by omega
  have FIN : Hid (OfP r A n c p ls w (.returned (S x)) w1) := ⟨x, rfl, List.mem_of_getElem? hxz, hf, hr⟩
  clear hf hr hxz hc e
  go_wp2_with fail
  go_ret
  exact FIN.out

/-- a reader of a code is opened -/
def OpenP (w : World) (e : Ending) (w' : World) : Prop := ∃ r A n c, e = .returned (Ptr r) ∧ Fr No w w' ∧ w.heap.size ≤ r ∧ Rdc w' r A n c 0

set_option maxRecDepth 100000 in
set_option maxHeartbeats 1000000 in
theorem open_any (w : World) (A : Option Addr) (n c : Nat) (hn : n ≤ maxLen) (hnc : n ≤ c) (hb : Byt w A n) :
    Calls Tryz.prog 18 #[.slice A n c] w fun e w' => OpenP w e w' := by
  have hlow : ∀ g o, 0 < n → A = some ⟨g, o, none⟩ → g < w.heap.size := fun g o h e => by
    obtain ⟨g', o', x, e', _, hc⟩ := hb 0 h
    rw [e] at e'
    simp only [Option.some.injEq, Addr.mk.injEq, and_true] at e'
    rw [e'.1]
    exact World.block_lt_of_cell? _ _ hc
  have BOX : Hid (∀ m cc, m ≤ 2000 → m ≤ n → OpenP w (.returned (Ptr w.heap.size)) (w.alloc (.cells #[.slice A m cc, .int .i64 0] 72))) := by
    intro m cc h1 h2
    refine ⟨w.heap.size, A, m, cc, rfl, (Fr.refl _ _).alloc _, Nat.le_refl _, Blk.new _ _ _, fun j hj => ?_, h1, fun h0 g o e => ?_⟩
    · obtain ⟨g, o, x, e, hx, hc⟩ := hb j (by omega)
      have hlt := World.block_lt_of_cell? _ _ hc
      exact ⟨g, o, x, e, hx, (((Fr.refl No w).alloc _).cell (p := ⟨g, o + j, none⟩) hlt (fun h => h)).trans hc⟩
    · have := hlow g o (by omega) e
      omega
  unfold maxLen at hn
  by_cases hl : 2000 < n
  · have hd : decide ((2000 : Int) < (n : Int)) = true := by simp; omega
    have FIN := Lib.hid (BOX.out 2000 c (Nat.le_refl _) (by omega))
    have c1 : (2000 : Int) ≤ (c : Int) := by omega
    obtain ⟨g, o, _, rfl, _, _⟩ := hb 0 (by omega)
    clear BOX hb hlow
    go_enter Tryz.func18, Tryz.ntmps18
    go_wp2_with fail
    go_ret
    exact FIN.out
  · have hd : decide ((2000 : Int) < (n : Int)) = false := by simp; omega
    have FIN := Lib.hid (BOX.out n c (by omega) (Nat.le_refl _))
    clear BOX hb hlow
    go_enter Tryz.func18, Tryz.ntmps18
    go_wp2_with fail
    go_ret
    exact FIN.out

/-- a text that is drawn: short, and the reader goes on -/
def DrwP (r : Nat) (A : Option Addr) (n c p m N : Nat) (w : World) (e : Ending) (w' : World) : Prop := ∃ x p', e = .returned (S x) ∧ x.length ≤ N ∧ Fr (One r) w w' ∧ p' ≤ p + m ∧ Rdc w' r A n c p'

theorem lits (ls : List (List UInt8)) (w : World) (t : TypeId) (cs : Array Value) (h : cs = (ls.map S).toArray) : TxS (w.alloc (.cells cs t)) (some ⟨w.heap.size, 0, none⟩) ls := by
  intro j x hj
  refine ⟨w.heap.size, 0, rfl, ?_⟩
  rw [Nat.zero_add, (Blk.new w t cs).cell j, h]
  simp [hj]

/-- one of the texts of a literal -/
theorem of_lit (w : World) (r : Nat) (A : Option Addr) (n c p N l : Nat) (ls : List (List UInt8)) (cs : Array Value) (hcs : cs = (ls.map S).toArray) (hl : l = ls.length) (h : Rdc w r A n c p) (h1 : 1 ≤ l) (h2 : l ≤ 1000) (hp : p ≤ 100000) (hN : ∀ x ∈ ls, x.length ≤ N) :
    Calls Tryz.prog 55 #[Ptr r, .slice (some ⟨w.heap.size, 0, none⟩) l l] (w.alloc (.cells cs 9)) fun e w' => ∃ x, e = .returned (S x) ∧ x ∈ ls ∧ x.length ≤ N ∧ Fr (One r) w w' ∧ Rdc w' r A n c (p + 1) := by
  have hrl := h.blk.lt
  refine (rdOf_any _ r A n c p w.heap.size 0 l ls l hl (h.fr (T := No) ((Fr.refl _ _).alloc _) (fun h => h) (fun _ _ _ h => h)) h1 h2 hp (lits ls w 9 cs hcs) (by omega)).mono ?_
  rintro e w' ⟨x, rfl, hx, hf, hr⟩
  exact ⟨x, rfl, hx, hN x hx, (((Fr.refl (One r) w).alloc _)).trans hf, hr⟩

/-- bytes that came in -/
theorem byt_row {w : World} {x : Addr} {n : Nat} {zs : List Int} (hz : n ≤ zs.length) (hc : ∀ i, i < zs.length → w.cell? (x.add i) = some (.int .u8 (zs.getD i 0))) (hw : ∀ m ∈ zs, (Lit.int .u8 m).wf = true) : Byt w (some x) n := by
  intro j hj
  obtain ⟨g, o, spot⟩ := x
  have hspot : spot = none := by simpa [Addr.add] using World.cell?_spot (hc 0 (by omega))
  subst hspot
  have hj2 : j < zs.length := by omega
  have h1 := hc j hj2
  have h2 := hw zs[j] (List.getElem_mem hj2)
  rw [List.getD_eq_getElem?_getD, List.getElem?_eq_getElem hj2, Option.getD_some] at h1
  simp [Lit.wf, IntKind.min, IntKind.max, IntKind.signed, IntKind.bits] at h2
  refine ⟨g, o, zs[j].toNat, rfl, by omega, ?_⟩
  rw [addr_add] at h1
  rw [h1]
  congr 2
  omega
end Go.Proofs.YtloecimlimoanaaGreatDoor
