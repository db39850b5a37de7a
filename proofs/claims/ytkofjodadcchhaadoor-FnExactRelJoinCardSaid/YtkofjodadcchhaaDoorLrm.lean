/- Own rows of integers: marked and held, alone and in relations. -/
import Derived.Test.YtkofjodadcchhaaDoorLrz
namespace Go.Proofs.YtkofjodadcchhaaDoor
open Go.RowKit Go.ChangeMaps

/-- an own row of integers -/
def OR (w : World) (B : Nat) (A : Option Addr) (n c : Nat) (xs : List Int) : Prop := n = xs.length ∧ w.ownsRow B 3 1 (.slice A n c) n (xs.map (Value.int .i64))

/-- the block of a slice -/
def Own (A : Option Addr) : Nat → Prop := fun b => ∃ a, A = some a ∧ a.block = b

theorem OR.isl {w : World} {B : Nat} {A : Option Addr} {n c : Nat} {xs : List Int} (h : OR w B A n c xs) : ISl w A xs := by
  obtain ⟨rfl, h⟩ := h
  exact ISl.of_own h

theorem OR.bounds {w : World} {B : Nat} {A : Option Addr} {n c : Nat} {xs : List Int} (h : OR w B A n c xs) {b : Nat} (hb : Own A b) : B ≤ b ∧ b < w.heap.size := by
  obtain ⟨a, rfl, rfl⟩ := hb
  rcases h.2.2 with ⟨hv, _⟩ | ⟨g, cap, cur, hv, h2, h3, _⟩
  · cases hv
  · injection hv with e1 e2 e3
    injection e1 with e1
    subst e1
    exact ⟨h2, (Array.getElem?_eq_some_iff.1 h3).1⟩

theorem OR.fr {w w' : World} {B : Nat} {A : Option Addr} {n c : Nat} {xs : List Int} {T : Nat → Prop} (h : OR w B A n c xs) (hf : Fr T w w') (hT : ∀ b, Own A b → ¬ T b) : OR w' B A n c xs := by
  refine ⟨h.1, h.2.1, ?_⟩
  rcases h.2.2 with h | ⟨g, cap, cur, hv, h2, h3, h4⟩
  · exact .inl h
  · right
    injection hv with e1 e2 e3
    subst e1
    have hl := (Array.getElem?_eq_some_iff.1 h3).1
    exact ⟨g, cap, cur, by rw [e3], h2, (hf.block g hl (hT g ⟨_, rfl, rfl⟩)).trans h3, h4⟩

theorem OR.no {w w' : World} {B : Nat} {A : Option Addr} {n c : Nat} {xs : List Int} (h : OR w B A n c xs) (hf : Fr No w w') : OR w' B A n c xs := h.fr hf (fun _ _ h => h)

/-- rows of different times lie apart -/
theorem OR.apart {w w' : World} {B B' : Nat} {A A' : Option Addr} {n c n' c' : Nat} {xs ys : List Int} (h : OR w B A n c xs) (h' : OR w' B' A' n' c' ys) (hB : w.heap.size ≤ B') : ∀ b, Own A' b → ¬ Own A b := fun b h1 h2 => by
  have := (h.bounds h2).2
  have := (h'.bounds h1).1
  omega

theorem OR.low {w : World} {B B' : Nat} {A : Option Addr} {n c : Nat} {xs : List Int} (h : OR w B A n c xs) (hB : B' ≤ B) : OR w B' A n c xs := by
  refine ⟨h.1, h.2.1, ?_⟩
  rcases h.2.2 with h | ⟨g, cap, cur, hv, h2, h3⟩
  · exact .inl h
  · exact .inr ⟨g, cap, cur, hv, Nat.le_trans hB h2, h3⟩

/-- a block of another type is not a row's -/
theorem OR.other {w : World} {B : Nat} {A : Option Addr} {n c : Nat} {xs : List Int} (h : OR w B A n c xs) {b : Nat} {t : TypeId} {cs : Array Value} (hb : Blk w b t cs) (ht : t ≠ 3) : ¬ Own A b := by
  rintro ⟨a, rfl, rfl⟩
  rcases h.2.2 with ⟨hv, _⟩ | ⟨g, cap, cur, hv, h2, h3, _⟩
  · cases hv
  · injection hv with e1 e2 e3
    injection e1 with e1
    subst e1
    unfold Blk at hb
    rw [hb] at h3
    injection h3 with h3
    injection h3 with _ h3 _
    exact ht h3

/-- the marks from k on -/
def marksI (k : Nat) (n : Nat) : List Int := (List.range n).map fun i => ((k + i : Nat) : Int)

theorem marksI_len (k n : Nat) : (marksI k n).length = n := by simp [marksI]

/-- marking: so many marks, the rest as it was -/
def MarkP (A : Option Addr) (B c : Nat) (n k : Nat) (w : World) (e : Ending) (w' : World) : Prop := e = .returned (.int .i64 ((k + n : Nat) : Int)) ∧ Fr (Own A) w w' ∧ w'.heap.size = w.heap.size ∧ OR w' B A n c (marksI k n)

theorem mark_take {k n j : Nat} {ys : List Value} (h : ys.take j = ((marksI k n).map (Value.int .i64)).take j) (hl : j < ys.length) (hj : j < n) : (ys.set j (.int .i64 ((k : Int) + (j : Int)))).take (j + 1) = ((marksI k n).map (Value.int .i64)).take (j + 1) := by
  rw [List.take_add_one, List.take_add_one, List.take_set_of_le (Nat.le_refl _), h, List.getElem?_set_self hl]
  congr 1
  simp [marksI, hj]

set_option maxRecDepth 100000 in
set_option maxHeartbeats 1000000 in
theorem markI_any (w : World) (B : Nat) (A : Option Addr) (n c k : Nat) (xs : List Int) (hk : k ≤ 8000000) (hn : n ≤ 2000000) (ho : OR w B A n c xs) :
    Calls Tryd.prog 29 #[.slice A n c, .int .i64 k] w fun e w' => MarkP A B c n k w e w' := by
  have hnI : (n : Int) ≤ 2000000 := by omega
  have hkI : (k : Int) ≤ 8000000 := by omega
  have HO := Lib.hid ho
  rcases ho.2.2 with ⟨hv, h0⟩ | ⟨g, cap, cur, hv, hB, hb, hcap, _, hcs, htk⟩
  · injection hv with e1 e2 e3
    subst e1 e2 e3
    have HE : Hid (MarkP none B 0 0 k w (.returned (.int .i64 k)) w) := by
      refine ⟨by simp, Fr.refl _ _, rfl, by simp [marksI_len], by simp [marksI], .inl ⟨rfl, rfl⟩⟩
    clear ho
    go_enter Tryd.func29, Tryd.ntmps29
    go_wp2_with fail
    go_loopw [1, 5] (fun a u wr => u = .int .i64 0 ∧ a = .int .i64 k ∧ wr = w) (fun _ u _ => 0)
    case atStart => exact ⟨rfl, rfl, rfl⟩
    case round =>
      obtain ⟨rfl, rfl, rfl⟩ := hrel
      go_wp2_with fail
      go_ret
      exact HE.out
  · injection hv with e1 e2 e3
    subst e1 e3
    have hxl : xs.length = n := ho.1.symm
    have HB := Lib.hid hB
    have hcl : n ≤ cur.size := by omega
    have HCL := Lib.hid hcl
    have hbk : Blk w g 3 cur := hb
    have HBK := Lib.hid hbk
    have HCAP := Lib.hid hcap
    have HCS := Lib.hid hcs
    have HM : Hid (c ≤ maxLen) := by assumption
    clear ho hb hbk hcap hcs htk hcl
    go_enter Tryd.func29, Tryd.ntmps29
    go_wp2_with fail
    go_loopw [1, 5] (fun a u wr => ∃ (j : Nat), j ≤ n ∧ u = .int .i64 j ∧ a = .int .i64 ((k : Int) + (j : Int)) ∧ Fr (One g) w wr ∧ wr.heap.size = w.heap.size ∧ ∃ ys : Array Value, Blk wr g 3 ys ∧ ys.size = cur.size ∧ ys.toList.take j = ((marksI k n).map (Value.int .i64)).take j) (fun _ u _ => n - (intOf u).toNat)
    case atStart => exact ⟨0, Nat.zero_le _, rfl, by simp, Fr.refl _ _, rfl, cur, HBK.out, rfl, by simp⟩
    case round =>
      obtain ⟨j, hj, rfl, rfl, hfr, hsz, ys, hby, hys, htk⟩ := hrel
      by_cases hlt : j < n
      · obtain ⟨v0, hcw⟩ : ∃ v, wr.cell? ⟨g, j, none⟩ = some v := ⟨_, by rw [hby.cell, Array.getElem?_eq_getElem (by have := HCL.out; omega)]⟩
        have hfz := hby.frozen j
        have FIN : Hid (Fr (One g) w (wr.setCell ⟨g, j, none⟩ (.int .i64 ((k : Int) + (j : Int)))) ∧ (wr.setCell ⟨g, j, none⟩ (.int .i64 ((k : Int) + (j : Int)))).heap.size = w.heap.size ∧ ∃ ys : Array Value, Blk (wr.setCell ⟨g, j, none⟩ (.int .i64 ((k : Int) + (j : Int)))) g 3 ys ∧ ys.size = cur.size ∧ ys.toList.take (j + 1) = ((marksI k n).map (Value.int .i64)).take (j + 1)) := by
          refine ⟨hfr.setCell (p := ⟨g, j, none⟩) (.inl rfl) _, by simp [World.setCell, hsz], _, hby.set_ _ _, by simp [hys], ?_⟩
          rw [Array.toList_setIfInBounds]
          exact mark_take htk (by rw [Array.length_toList]; have := HCL.out; omega) hlt
        clear hfr hsz hby hys htk
        go_wp2_with fail
        go_roundw
        case rel => exact ⟨j + 1, by omega, by go_num, by go_num, FIN.out⟩
        case measure => simp [intOf]; omega
      · have hjn : j = n := by omega
        have HE : Hid (MarkP (some ⟨g, 0, none⟩) B c n k w (.returned (.int .i64 ((k : Int) + (n : Int)))) wr) := by
          refine ⟨by simp, hfr.mono (fun b _ h => ⟨_, rfl, h.symm⟩), hsz, by simp [marksI_len], by simp [marksI_len], ?_⟩
          refine .inr ⟨g, c, ys, rfl, HB.out, hby, HCAP.out, HM.out, by rw [hys]; exact HCS.out, ?_⟩
          rw [Nat.mul_one, ← hjn, htk, hjn, List.take_of_length_le (by simp [marksI_len])]
        have hnlt : ¬ (j : Int) < (n : Int) := by omega
        clear hfr hsz hby hys htk
        go_wp2_with fail
        go_ret
        exact HE.out

/-- holding: the marks are found -/
def HeldP (n k : Nat) (w : World) (e : Ending) (w' : World) : Prop := e = .returned (.int .i64 ((k + n : Nat) : Int)) ∧ Fr No w w'

theorem marksI_at {k n j : Nat} (h : j < n) : (marksI k n)[j]? = some ((k + j : Nat) : Int) := by simp [marksI, h]

set_option maxRecDepth 100000 in
set_option maxHeartbeats 1000000 in
theorem heldI_any (w : World) (B : Nat) (A : Option Addr) (n c k : Nat) (hk : k ≤ 8000000) (hn : n ≤ 2000000) (ho : OR w B A n c (marksI k n)) :
    Calls Tryd.prog 35 #[.slice A n c, .int .i64 k] w fun e w' => HeldP n k w e w' := by
  have hnI : (n : Int) ≤ 2000000 := by omega
  have hkI : (k : Int) ≤ 8000000 := by omega
  have HI := Lib.hid ho.isl
  clear ho
  go_enter Tryd.func35, Tryd.ntmps35
  go_wp2_with fail
  go_loop [1, 5] (fun a u => ∃ (j : Nat), j ≤ n ∧ u = .int .i64 j ∧ a = .int .i64 ((k : Int) + (j : Int))) (fun _ u => n - (intOf u).toNat)
  case atStart => exact ⟨0, Nat.zero_le _, rfl, by simp⟩
  case round =>
    obtain ⟨j, hj, rfl, rfl⟩ := hrel
    by_cases hlt : j < n
    · obtain ⟨g, o, rfl, hc⟩ := HI.out j _ (marksI_at hlt)
      have hc' : w.cell? ⟨g, o + j, none⟩ = some (.int .i64 ((k : Int) + (j : Int))) := by rw [hc]; simp
      clear hc
      go_wp2_with fail
      go_round
      case rel => exact ⟨j + 1, by omega, by go_num, by go_num⟩
      case measure => simp [intOf]; omega
    · have hjn : j = n := by omega
      have hnlt : ¬ (j : Int) < (n : Int) := by omega
      go_wp2_with fail
      go_ret
      exact ⟨by simp, Fr.refl _ _⟩

set_option maxHeartbeats 1000000 in
theorem markR_any (w : World) (B : Nat) (L R : Int) (A : Option Addr) (n c k : Nat) (xs : List Int) (hk : k ≤ 8000000) (hn : n ≤ 2000000) (ho : OR w B A n c xs) :
    Calls Tryd.prog 25 #[RV L R A n c, .int .i64 k] w fun e w' => e = .returned (.int .i64 ((k + n : Nat) : Int)) ∧ Fr (Own A) w w' ∧ OR w' B A n c (marksI k n) := by
  have HFB : Hid (Fr No w (w.alloc (.cells #[.int .i64 L, .int .i64 R, .slice A n c] 27))) := (Fr.refl No w).alloc _
  have MK : Hid (∀ W, Fr No w W → Calls Tryd.prog 29 #[.slice A n c, .int .i64 k] W fun e w' => MarkP A B c n k W e w') := fun W hf => markI_any W B A n c k xs hk hn (ho.no hf)
  have HO := Lib.hid ho
  clear ho
  go_enter Tryd.func25, Tryd.ntmps25
  go_wp2_with fail
  refine (MK.out _ HFB.out).mono ?_
  rintro e w1 ⟨rfl, hf, _, hor⟩
  have HF : Hid (Fr (Own A) w w1) := (HFB.out.mono (fun _ _ h => h.elim)).trans hf
  have HR := Lib.hid hor
  clear hf hor
  go_wp2_with fail
  go_ret
  exact ⟨rfl, HF.out, HR.out⟩

set_option maxHeartbeats 1000000 in
theorem heldR_any (w : World) (B : Nat) (L R : Int) (A : Option Addr) (n c k : Nat) (hk : k ≤ 8000000) (hn : n ≤ 2000000) (ho : OR w B A n c (marksI k n)) :
    Calls Tryd.prog 26 #[RV L R A n c, .int .i64 k] w fun e w' => HeldP n k w e w' := by
  have HFB : Hid (Fr No w (w.alloc (.cells #[.int .i64 L, .int .i64 R, .slice A n c] 27))) := (Fr.refl No w).alloc _
  have MK : Hid (∀ W, Fr No w W → Calls Tryd.prog 35 #[.slice A n c, .int .i64 k] W fun e w' => HeldP n k W e w') := fun W hf => heldI_any W B A n c k hk hn (ho.no hf)
  clear ho
  go_enter Tryd.func26, Tryd.ntmps26
  go_wp2_with fail
  refine (MK.out _ HFB.out).mono ?_
  rintro e w1 ⟨rfl, hf⟩
  have HF := Lib.hid (HFB.out.trans hf)
  clear hf
  go_wp2_with fail
  go_ret
  exact ⟨rfl, HF.out⟩
end Go.Proofs.YtkofjodadcchhaaDoor
