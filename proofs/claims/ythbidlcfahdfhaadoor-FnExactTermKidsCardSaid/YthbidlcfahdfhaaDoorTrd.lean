import Derived.Test.YthbidlcfahdfhaaDoorWord
import Derived.Shelf.Strings.SlTrimAscii
namespace Go.Proofs.YthbidlcfahdfhaaDoor
open Go.RowKit Go.ChangeMaps

/-- the reader of terms -/
def TRdr (w : World) (R : Nat) (u : List UInt8) (k : Nat) : Prop := Blk w R 62 #[S u, .int .i64 k]

theorem ba_take (u : List UInt8) (j : Nat) : (ByteArray.mk u.toArray).extract 0 j = ⟨(u.take j).toArray⟩ := by
  apply ByteArray.ext
  simp [ByteArray.data_extract]

theorem ba_drop (u : List UInt8) (j : Nat) : (ByteArray.mk u.toArray).extract j u.length = ⟨(u.drop j).toArray⟩ := by
  apply ByteArray.ext
  simp [ByteArray.data_extract]
  rw [List.take_of_length_le (by simp)]

set_option maxRecDepth 100000 in
set_option maxHeartbeats 400000 in
theorem skip_t (w : World) (R : Nat) (u p u2 : List UInt8) (k : Nat) (b : Bool) (h : TRdr w R u k) (hb : Lib.hasPrefix u p = b) (hu : Lib.trimPrefix u p = u2) :
    Calls Tryd.prog 68 #[Ptr R, S p] w fun e w' => e = .returned (.bool b) ∧ w.setCell ⟨R, 0, none⟩ (S u2) = w' := by
  have c1 : w.cell? ⟨R, 0, none⟩ = some (S u) := (h.cell 0).trans rfl
  have f1 : w.frozen? ⟨R, 0, none⟩ = false := h.frozen 0
  have HB := Lib.hid hb
  have HU := Lib.hid hu
  clear hb hu
  go_enter Tryd.func68, Tryd.ntmps68
  go_wp2_with fail
  refine (Tryd.strings_CutPrefix _ _ _).mono ?_
  rintro e w' ⟨rfl, rfl⟩
  simp only [HB.out, HU.out]
  go_wp2
  go_ret
  exact ⟨rfl, rfl⟩

def WordPost (w : World) (R : Nat) (u : List UInt8) (k : Nat) (e : Ending) (w' : World) : Prop :=
  TRdr w' R (if 300 < k + 1 then u else behind u) (k + 1) ∧ Fr (One R) w w' ∧ e = .returned (S (if 300 < k + 1 then [] else wordOf u))

set_option maxRecDepth 100000 in
set_option maxHeartbeats 1000000 in
theorem word_any (w : World) (R : Nat) (u : List UInt8) (k : Nat) (h : TRdr w R u k) (hu : u.length ≤ 6000) (hk : k ≤ 1000) :
    Calls Tryd.prog 70 #[Ptr R] w fun e w' => WordPost w R u k e w' := by
  have c0 : w.cell? ⟨R, 0, none⟩ = some (S u) := (h.cell 0).trans rfl
  have c1 : w.cell? ⟨R, 1, none⟩ = some (.int .i64 k) := (h.cell 1).trans rfl
  have f1 := h.frozen 1
  have hlt := h.lt
  have b0 : (0 : Int) ≤ k := by omega
  have b2 : (k : Int) ≤ 1000 := by omega
  have hR1 : TRdr (w.setCell ⟨R, 1, none⟩ (.int .i64 ((k : Int) + 1))) R u (k + 1) := Blk.set_ h 1 (.int .i64 ((k : Int) + 1))
  have hF1 : Fr (One R) w (w.setCell ⟨R, 1, none⟩ (.int .i64 ((k : Int) + 1))) := (Fr.refl (One R) w).setCell (p := ⟨R, 1, none⟩) (.inl rfl) _
  by_cases h300 : 300 < k + 1
  · have hd : decide (300 < (k : Int) + 1) = true := by simp; omega
    go_enter Tryd.func70, Tryd.ntmps70
    go_wp2_with fail
    go_ret
    refine ⟨?_, hF1, ?_⟩
    · rw [if_pos h300]; exact hR1
    · rw [if_pos h300]; rfl
  · have hd : decide (300 < (k : Int) + 1) = false := by simp; omega
    have FIN : Hid (∀ (w3 : World), Fr (One R) w w3 → TRdr w3 R (behind u) (k + 1) → WordPost w R u k (.returned (S (wordOf u))) w3) := by
      intro w3 h1 h2
      refine ⟨?_, h1, ?_⟩
      · rw [if_neg h300]; exact h2
      · rw [if_neg h300]
    have H300 := Lib.hid h300
    clear h300
    go_enter Tryd.func70, Tryd.ntmps70
    go_wp2_with fail
    refine (idx_any u _ (by omega)).mono ?_
    generalize w.setCell ⟨R, 1, none⟩ (.int .i64 ((k : Int) + 1)) = w1 at hR1 hF1 ⊢
    rintro e w2 ⟨r, rfl, hat, hf2⟩
    have hR2 : TRdr w2 R u (k + 1) := hR1.fr hf2 (fun h => h)
    have hF2 : Fr (One R) w w2 := hF1.trans (hf2.mono (fun _ _ h => h.elim))
    have d0 : w2.cell? ⟨R, 0, none⟩ = some (S u) := (hR2.cell 0).trans rfl
    have g0 := hR2.frozen 0
    have hlt2 := hR2.lt
    clear c0 c1 f1 hlt hR1 hF1 hf2
    rcases hat with ⟨rfl, hw, hb⟩ | ⟨h0, hle, hw, hb⟩
    · have HW := Lib.hid hw
      have HB := Lib.hid hb
      have e1 := ba_take u u.length
      have e2 := ba_drop u u.length
      rw [List.take_length] at e1
      rw [List.drop_length] at e2
      clear hw hb
      go_wp2_with fail
      go_ret
      have := FIN.out (w2.setCell ⟨R, 0, none⟩ (S [])) (hF2.setCell (p := ⟨R, 0, none⟩) (.inl rfl) _) (by rw [HB.out]; exact Blk.set_ hR2 0 (S []))
      rw [HW.out] at this
      exact this
    · obtain ⟨j, rfl⟩ : ∃ j : Nat, r = j := ⟨r.toNat, by omega⟩
      have hj : j ≤ u.length := by omega
      have hneg : ¬ (j : Int) < 0 := by omega
      rw [Int.toNat_natCast] at hw hb
      have HW := Lib.hid hw
      have HB := Lib.hid hb
      have e1 := ba_take u j
      have e2 := ba_drop u j
      clear hw hb h0 hle
      go_wp2_with fail
      go_ret
      have := FIN.out (w2.setCell ⟨R, 0, none⟩ (S (u.drop j))) (hF2.setCell (p := ⟨R, 0, none⟩) (.inl rfl) _) (by rw [HB.out]; exact Blk.set_ hR2 0 (S (u.drop j)))
      rw [HW.out] at this
      exact this

def digL : List UInt8 := [48, 49, 50, 51, 52, 53, 54, 55, 56, 57]

theorem dig_contains : ∀ c : Fin 256, digL.contains (UInt8.ofNat c.val) = isDig (UInt8.ofNat c.val) := by decide +kernel

theorem dig_iff (c : UInt8) : digL.contains c = isDig c := by
  have := dig_contains ⟨c.toNat, c.toNat_lt⟩
  simpa using this

theorem drop_nil (p : UInt8 → Bool) : ∀ l : List UInt8, l.dropWhile p = [] ↔ ∀ x ∈ l, p x = true
  | [] => by simp
  | c :: l => by
    rw [List.dropWhile_cons]
    rcases hc : p c with _ | _
    · simp [hc]
    · simp [hc, drop_nil p l]

theorem trim_nil (l : List UInt8) : (Lib.trimS l digL = []) ↔ l.all isDig = true := by
  have hp : (fun c => digL.contains c) = isDig := funext dig_iff
  unfold Lib.trimS Lib.trimLeftS Lib.trimRightS
  rw [hp]
  constructor
  · intro h
    rw [List.all_eq_true]
    by_cases hr : l.reverse.dropWhile isDig = []
    · intro x hx
      have := (drop_nil _ _).1 hr x (by simpa using hx)
      exact this
    · exfalso
      have h1 := (drop_nil _ _).1 h
      rcases hd : l.reverse.dropWhile isDig with _ | ⟨x, r⟩
      · exact hr hd
      · have h2 := h1 x (by rw [hd]; simp)
        have h3 := List.head_dropWhile_not isDig (l := l.reverse) (by rw [hd]; simp)
        simp only [hd, List.head_cons] at h3
        rw [h2] at h3
        cases h3
  · intro h
    rw [List.all_eq_true] at h
    have : l.reverse.dropWhile isDig = [] := (drop_nil _ _).2 (fun x hx => h x (by simpa using hx))
    rw [this]; rfl

theorem trim_any (l : List UInt8) (w : World) (hl : l.length ≤ 100000) :
    Calls Tryd.prog 64 #[S l, .string ⟨#[48, 49, 50, 51, 52, 53, 54, 55, 56, 57]⟩] w fun e w' => ∃ r : List UInt8, e = .returned (S r) ∧ (r = [] ↔ l.all isDig = true) ∧ Fr No w w' := by
  have h := Any.strings_Trim_ascii (ρ := Tryd.lays160_ren) Tryd.lays160 (fun w => by kernel_rfl) (by kernel_rfl) ⟨l.toArray⟩ ⟨#[48, 49, 50, 51, 52, 53, 54, 55, 56, 57]⟩ w (by show l.length ≤ _; omega) (by decide) (Go.Proofs.ascii_of_all (by decide))
  refine h.mono ?_
  rintro e w' ⟨rfl, hb⟩
  exact ⟨_, rfl, trim_nil l, Fr.of_below hb (Nat.le_refl _) _⟩

set_option maxRecDepth 100000 in
set_option maxHeartbeats 1000000 in
theorem nameIs_any (a : List UInt8) (w : World) (ha : a.length ≤ 6000) :
    Calls Tryd.prog 44 #[S a] w fun e w' => e = .returned (.bool (isName a)) ∧ Fr No w w' := by
  match a, ha with
  | [], _ =>
    go_enter Tryd.func44, Tryd.ntmps44
    go_wp2_with fail
    go_ret
    exact ⟨rfl, Fr.refl _ _⟩
  | c :: r, ha =>
    simp at ha
    have hg : ∀ h : 0 < (ByteArray.mk (c :: r).toArray).size, (ByteArray.mk (c :: r).toArray)[0]'h = c := fun h => rfl
    have hlt := c.toNat_lt
    by_cases h4 : 3 < r.length
    · have hd : decide ((4 : Int) < (r.length : Int) + 1) = true := by simp; omega
      have hn : isName (c :: r) = false := by simp [isName]; omega
      rw [hn]
      clear hn
      go_enter Tryd.func44, Tryd.ntmps44
      go_wp2_with fail
      go_ret
      exact ⟨rfl, Fr.refl _ _⟩
    · have hd : decide ((4 : Int) < (r.length : Int) + 1) = false := by simp; omega
      by_cases h97 : c.toNat < 97
      · have hn : isName (c :: r) = false := by
          simp only [isName]
          have : decide (97 ≤ c.toNat) = false := by simp; omega
          simp [this]
        rw [hn]
        have hd2 : decide ((c.toNat : Int) < 97) = true := by simp; omega
        clear hn
        go_enter Tryd.func44, Tryd.ntmps44
        go_wp2_with fail
        go_ret
        exact ⟨rfl, Fr.refl _ _⟩
      · have hd2 : decide ((c.toNat : Int) < 97) = false := by simp; omega
        by_cases h122 : 122 < c.toNat
        · have hn : isName (c :: r) = false := by
            simp only [isName]
            have : decide (c.toNat ≤ 122) = false := by simp; omega
            simp [this]
          rw [hn]
          have hd3 : decide (122 < (c.toNat : Int)) = true := by simp; omega
          clear hn
          go_enter Tryd.func44, Tryd.ntmps44
          go_wp2_with fail
          go_ret
          exact ⟨rfl, Fr.refl _ _⟩
        · have hd3 : decide (122 < (c.toNat : Int)) = false := by simp; omega
          have hn : isName (c :: r) = r.all isDig := by
            simp only [isName]
            have h1 : decide (r.length ≤ 3) = true := by simp; omega
            have h2 : decide (97 ≤ c.toNat) = true := by simp; omega
            have h3 : decide (c.toNat ≤ 122) = true := by simp; omega
            simp [h1, h2, h3]
          rw [hn]
          have hex : (ByteArray.mk (c :: r).toArray).extract 1 (r.length + 1) = ⟨r.toArray⟩ := by
            apply ByteArray.ext
            simp [ByteArray.data_extract]
          have h1r : (1 : Int) ≤ (r.length : Int) + 1 := by omega
          clear hn
          go_enter Tryd.func44, Tryd.ntmps44
          go_wp2_with fail
          refine (trim_any r _ (by omega)).mono ?_
          rintro e w1 ⟨x, rfl, hx, hf⟩
          rcases hall : r.all isDig with _ | _
          · have hxe : x.isEmpty = false := by
              rcases x with _ | ⟨y, x⟩
              · have := hx.1 rfl; rw [hall] at this; cases this
              · rfl
            clear hx
            go_wp2_with fail
            go_ret
            exact ⟨by rw [hall]; rfl, hf⟩
          · have hxe : x = [] := hx.2 hall
            subst hxe
            clear hx
            go_wp2_with fail
            go_ret
            exact ⟨by rw [hall]; rfl, hf⟩
end Go.Proofs.YthbidlcfahdfhaaDoor
