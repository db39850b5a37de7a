/- Mark · Eqs · Marks · Held · Rows of texts that a call owns, marked and held. -/
import Derived.Test.YtmpadnnpmbgdcaaHas
import Derived.Laws.BytesArg
import Derived.StillTactics
import Derived.StillTailTactics
import Derived.Laws.OwnMore
import Derived.Deep.RegionHeld3
/- Mark -/
namespace Go.Proofs.Ytmpadnnpmbgdcaa
open Go.RowKit Go.ChangeMaps

def digs : Nat → Nat → List UInt8 → List UInt8
  | 0, _, acc => acc
  | n + 1, k, acc => if k = 0 then acc else digs n (k / 10) (UInt8.ofNat (48 + k % 10) :: acc)

def markOf (k : Nat) : List UInt8 := if k = 0 then [109, 48] else 109 :: digs k k []

theorem digs_one : ∀ (n m k : Nat) (acc : List UInt8), k ≤ n → k ≤ m → digs n k acc = digs m k acc
  | 0, 0, _, _, _, _ => rfl
  | 0, m + 1, k, acc, h, _ => by
    have : k = 0 := by omega
    simp [digs, this]
  | n + 1, 0, k, acc, _, h => by
    have : k = 0 := by omega
    simp [digs, this]
  | n + 1, m + 1, k, acc, h1, h2 => by
    simp only [digs]
    split
    · rfl
    · exact digs_one n m (k / 10) _ (by omega) (by omega)

theorem digs_step (k : Nat) (hk : 0 < k) (acc : List UInt8) : digs k k acc = digs (k / 10) (k / 10) (UInt8.ofNat (48 + k % 10) :: acc) := by
  obtain ⟨n, rfl⟩ : ∃ n, k = n + 1 := ⟨k - 1, by omega⟩
  rw [digs, if_neg (by omega)]
  exact digs_one _ _ _ _ (by omega) (Nat.le_refl _)

theorem byte_text (W : World) (o : Obj) (z : Int) (h : o = .cells #[.int .u8 z] 5) :
    (convert 111 9 (.slice (some ⟨W.heap.size, 0, none⟩) 1 1)).run Try.prog (W.alloc o) = .ok (S [UInt8.ofNat z.toNat]) (W.alloc o) := by
  subst h
  have := run_convert_bytes_arg (P := Try.prog) (W.alloc (.cells #[.int .u8 z] 5)) 111 5 Try.underlying111 Try.underlying5 W.heap.size 0 1 1 [z] rfl
    (fun i hi => by
      have : i = 0 := by omega
      subst this
      rw [World.cell?_alloc_new]
      rfl) 9 Try.underlying9
  exact this

end Go.Proofs.Ytmpadnnpmbgdcaa

/- Eqs -/
namespace Go.Proofs.Ytmpadnnpmbgdcaa
open Go.RowKit Go.ChangeMaps

theorem eq_take_more {xs ys : List (List UInt8)} {j : Nat} {x y : List UInt8} (h : xs.take j = ys.take j) (hx : xs[j]? = some x) (hy : ys[j]? = some y) (hxy : x = y) : xs.take (j + 1) = ys.take (j + 1) := by
  rw [List.take_add_one, List.take_add_one, h, hx, hy, hxy]

def EqS (xs ys : List (List UInt8)) (w : World) (e : Ending) (w' : World) : Prop := ∃ b : Bool, e = .returned (.bool b) ∧ (b = true ↔ xs = ys) ∧ ∃ n, w' = w.drewN n

set_option maxRecDepth 100000 in
set_option maxHeartbeats 1000000 in
theorem eqs_any (w : World) (A A' : Option Addr) (xs ys : List (List UInt8)) (c c' : Nat) (hx : SSl w A xs) (hy : SSl w A' ys) (hl : xs.length ≤ 1000000) (hl2 : ys.length ≤ 1000000) :
    Calls Try.prog 15 #[.slice A xs.length c, .slice A' ys.length c'] w fun e w' => EqS xs ys w e w' := by
  have HX := Lib.hid hx
  have HY := Lib.hid hy
  clear hx hy
  have hl' : (xs.length : Int) ≤ 1000000 := by omega
  have hl2' : (ys.length : Int) ≤ 1000000 := by omega
  by_cases hne : xs.length = ys.length
  · have HNE := Lib.hid hne
    rw [← hne]
    clear hne
    go_enter Try.func15, Try.ntmps15
    go_wp2_with fail
    go_loopw [5] (fun v wr => ∃ j : Nat, j ≤ xs.length ∧ v = .int .i64 j ∧ xs.take j = ys.take j ∧ ∃ n, wr = w.drewN n) (fun v _ => xs.length - (intOf v).toNat)
    case atStart => exact ⟨0, Nat.zero_le _, rfl, by simp, 0, rfl⟩
    case round =>
      obtain ⟨j, hj, rfl, hno, nn, rfl⟩ := hrel
      have HN := Lib.hid hno
      clear hno
      by_cases hlt : j < xs.length
      · obtain ⟨x, hxj⟩ : ∃ x, xs[j]? = some x := ⟨_, List.getElem?_eq_getElem hlt⟩
        obtain ⟨y, hyj⟩ : ∃ y, ys[j]? = some y := ⟨_, List.getElem?_eq_getElem (by rw [← HNE.out]; exact hlt)⟩
        obtain ⟨g, o, rfl, hc0⟩ := HX.out j x hxj
        obtain ⟨g', o', rfl, hc1⟩ := HY.out j y hyj
        have hc : (w.drewN nn).cell? ⟨g, o + j, none⟩ = some (S x) := hc0
        have hc' : (w.drewN nn).cell? ⟨g', o' + j, none⟩ = some (S y) := hc1
        have HFIN : Hid (∃ n, (w.drewN nn).drew = w.drewN n) := ⟨nn + 1, rfl⟩
        clear hc0 hc1
        generalize w.drewN nn = wr at hc hc' HFIN ⊢
        have HXJ := Lib.hid hxj
        have HYJ := Lib.hid hyj
        clear hxj hyj
        by_cases hpx : x = y
        · subst hpx
          go_wp2_with fail
          go_wp2_with fail
          refine wp_region_still_lit (by kernel_rfl) (by kernel_rfl) ?_
          change wpStill _ _ (World.drew _) (fun a' => _) _ _
          repeat still_step
          refine wpStill_nil ?_
          go_wp2
          go_round
          case rel => exact ⟨j + 1, by omega, by go_num, eq_take_more HN.out HXJ.out HYJ.out rfl, HFIN.out⟩
          case measure => simp [intOf]; omega
        · have hb : (x == y) = false := by simpa using hpx
          have HPX := Lib.hid hpx
          clear hpx
          go_wp2_with fail
          go_wp2_with fail
          refine wp_region_still_lit (by kernel_rfl) (by kernel_rfl) ?_
          change wpStill _ _ (World.drew _) (fun a' => _) _ _
          repeat still_step
          refine wpStill_nil ?_
          go_wp2
          go_ret
          refine ⟨false, rfl, ⟨fun h => (by cases h), fun h => ?_⟩, HFIN.out⟩
          have e1 := HXJ.out
          rw [h, HYJ.out] at e1
          injection e1 with e1
          exact (HPX.out e1.symm).elim
      · have hjl : j = xs.length := by omega
        have HF : Hid (xs = ys) := by
          have := HN.out
          rw [hjl, List.take_length, HNE.out, List.take_length] at this
          exact this
        clear hjl
        go_wp2
        go_ret
        exact ⟨true, rfl, ⟨fun _ => HF.out, fun _ => rfl⟩, _, rfl⟩
  · have HF : Hid (xs ≠ ys) := fun h => hne (by rw [h])
    go_enter Try.func15, Try.ntmps15
    go_wp2_with fail
    go_ret
    exact ⟨false, rfl, ⟨fun h => (by cases h), fun h => (HF.out h).elim⟩, 0, rfl⟩
end Go.Proofs.Ytmpadnnpmbgdcaa

/- Marks -/
namespace Go.Proofs.Ytmpadnnpmbgdcaa
open Go.RowKit Go.ChangeMaps

/-- the first j texts bear marks from k on -/
def Marked (k j n : Nat) (ys : List (List UInt8)) : Prop := ys.length = n ∧ ∀ i, i < j → ys[i]? = some (markOf (k + i))

theorem Marked.more {k j n : Nat} {ys : List (List UInt8)} (h : Marked k j n ys) (hj : j < n) : Marked k (j + 1) n (ys.set j (markOf (k + j))) := by
  refine ⟨by simp [h.1], fun i hi => ?_⟩
  by_cases he : i = j
  · subst he
    rw [List.getElem?_set_self (by rw [h.1]; exact hj)]
  · rw [List.getElem?_set_ne (Ne.symm he)]
    exact h.2 i (by omega)

def MarkP (B : Nat) (A : Option Addr) (c n k : Nat) (w : World) (e : Ending) (w' : World) : Prop :=
  e = .returned (.int .i64 ((k + n : Nat) : Int)) ∧ Fr (fun b => (Value.slice A n c).ownBlock = some b) w w' ∧ ∃ ys, Marked k n n ys ∧ w'.ownsRow B 9 1 (.slice A n c) n (ys.map S)

end Go.Proofs.Ytmpadnnpmbgdcaa

/- Held -/
namespace Go.Proofs.Ytmpadnnpmbgdcaa
open Go.RowKit Go.ChangeMaps

end Go.Proofs.Ytmpadnnpmbgdcaa

/- Rows of texts that a call owns, marked and held. -/
namespace Go.Proofs.Ytmpadnnpmbgdcaa
open Go.RowKit Go.ChangeMaps

/-- a row of texts of the call's own: its block lies at B or above -/
def Row (w : World) (B : Nat) (A : Option Addr) (c : Nat) (xs : List (List UInt8)) : Prop := w.ownsRow B 9 1 (.slice A xs.length c) xs.length (xs.map S)

theorem row_low {w : World} {B : Nat} {A : Option Addr} {c : Nat} {xs : List (List UInt8)} (h : Row w B A c xs) : ∀ b, (Value.slice A xs.length c).ownBlock = some b → B ≤ b ∧ b < w.heap.size := fun b hb => h.lt b hb

theorem Row.fr {w w' : World} {B : Nat} {A : Option Addr} {c : Nat} {xs : List (List UInt8)} {T : Nat → Prop} (h : Row w B A c xs) (hf : Fr T w w') (hs : ∀ b, (Value.slice A xs.length c).ownBlock = some b → ¬ T b) : Row w' B A c xs := own_fr h hf hs

end Go.Proofs.Ytmpadnnpmbgdcaa
