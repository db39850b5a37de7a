/- The model's names and shapes of terms. -/
import Derived.Test.YthbidlcfahdfhaaDoorTerm
import Derived.Test.YthbidlcfahdfhaaDoorShead
namespace Go.Proofs.YthbidlcfahdfhaaDoor
open Go.RowKit Go.ChangeMaps

set_option maxHeartbeats 1000000 in
theorem in_yes (n : Int) (w : World) (h1 : 1 ≤ n) (h2 : n ≤ 4) : Calls Tryd.prog 50 #[.int .i64 n, .int .i64 1, .int .i64 4] w fun e w' => e = .returned (.bool true) ∧ w = w' := by
  go_enter Tryd.func50, Tryd.ntmps50
  go_wp2
  go_ret
  exact ⟨rfl, rfl⟩

set_option maxHeartbeats 1000000 in
theorem in_no (n : Int) (w : World) (h : n < 1 ∨ 4 < n) : Calls Tryd.prog 50 #[.int .i64 n, .int .i64 1, .int .i64 4] w fun e w' => e = .returned (.bool false) ∧ w = w' := by
  rcases h with h | h
  · go_enter Tryd.func50, Tryd.ntmps50
    go_wp2
    go_ret
    exact ⟨rfl, rfl⟩
  · have h1 : 1 ≤ n := by omega
    have h2 : decide (n ≤ 4) = false := by simp; omega
    go_enter Tryd.func50, Tryd.ntmps50
    go_wp2
    go_ret
    exact ⟨rfl, rfl⟩

theorem digs_more {r : List UInt8} {j : Nat} {x : UInt8} (h : (r.take j).all isDig = true) (hj : r[j]? = some x) (hx : isDig x = true) : (r.take (j + 1)).all isDig = true := by
  rw [List.take_add_one, hj]
  simp [h, hx]

set_option maxRecDepth 100000 in
set_option maxHeartbeats 2000000 in
theorem name2_any (a : List UInt8) (w : World) (ha : a.length ≤ 6000) :
    Calls Tryd.prog 32 #[S a] w fun e w' => e = .returned (.bool (isName a)) ∧ w = w' := by
  match a, ha with
  | [], _ =>
    go_enter Tryd.func32, Tryd.ntmps32
    go_wp2_with fail
    refine (in_no _ w (.inl (by decide))).mono ?_
    rintro e w' ⟨rfl, rfl⟩
    go_wp2_with fail
    go_ret
    exact ⟨rfl, rfl⟩
  | c :: r, ha =>
    simp at ha
    have hg : ∀ h : 0 < (ByteArray.mk (c :: r).toArray).size, (ByteArray.mk (c :: r).toArray)[0]'h = c := fun h => rfl
    have hlt := c.toNat_lt
    by_cases h4 : 3 < r.length
    · have hn : isName (c :: r) = false := by simp [isName]; omega
      rw [hn]
      clear hn
      go_enter Tryd.func32, Tryd.ntmps32
      go_wp2_with fail
      refine (in_no _ w (.inr (by omega))).mono ?_
      rintro e w' ⟨rfl, rfl⟩
      go_wp2_with fail
      go_ret
      exact ⟨rfl, rfl⟩
    · have IN : Hid (∀ n : Int, n = (r.length : Int) + 1 → Calls Tryd.prog 50 #[.int .i64 n, .int .i64 1, .int .i64 4] w fun e w' => e = .returned (.bool true) ∧ w = w') := fun n hn => in_yes n w (by omega) (by omega)
      by_cases h97 : c.toNat < 97
      · have hn : isName (c :: r) = false := by
          simp only [isName]
          have : decide (97 ≤ c.toNat) = false := by simp; omega
          simp [this]
        rw [hn]
        have hd2 : decide ((c.toNat : Int) < 97) = true := by simp; omega
        clear hn
        go_enter Tryd.func32, Tryd.ntmps32
        go_wp2_with fail
        refine (IN.out _ rfl).mono ?_
        rintro e w' ⟨rfl, rfl⟩
        go_wp2_with fail
        go_ret
        exact ⟨rfl, rfl⟩
      · have hd2 : decide ((c.toNat : Int) < 97) = false := by simp; omega
        by_cases h122 : 122 < c.toNat
        · have hn : isName (c :: r) = false := by
            simp only [isName]
            have : decide (c.toNat ≤ 122) = false := by simp; omega
            simp [this]
          rw [hn]
          have hd3 : decide (122 < (c.toNat : Int)) = true := by simp; omega
          clear hn
          go_enter Tryd.func32, Tryd.ntmps32
          go_wp2_with fail
          refine (IN.out _ rfl).mono ?_
          rintro e w' ⟨rfl, rfl⟩
          go_wp2_with fail
          go_ret
          exact ⟨rfl, rfl⟩
        · have hd3 : decide (122 < (c.toNat : Int)) = false := by simp; omega
          have hn : isName (c :: r) = r.all isDig := by
            simp only [isName]
            have h1 : decide (r.length ≤ 3) = true := by simp; omega
            have h2 : decide (97 ≤ c.toNat) = true := by simp; omega
            have h3 : decide (c.toNat ≤ 122) = true := by simp; omega
            simp [h1, h2, h3]
          rw [hn]
          have GET : Hid (∀ j x, r[j]? = some x → ∀ h : j + 1 < (ByteArray.mk (c :: r).toArray).size, (ByteArray.mk (c :: r).toArray)[j + 1]'h = x) := fun j x hx h => ba_get (c :: r) (j + 1) h x (by simpa using hx)
          clear hn hg
          have hg : ∀ h : 0 < (ByteArray.mk (c :: r).toArray).size, (ByteArray.mk (c :: r).toArray)[0]'h = c := fun h => rfl
          go_enter Tryd.func32, Tryd.ntmps32
          go_wp2_with fail
          refine (IN.out _ rfl).mono ?_
          rintro e w' ⟨rfl, rfl⟩
          go_wp2_with fail
          clear hg
          go_loop [3] (fun v => ∃ j : Nat, j ≤ r.length ∧ v = .int .i64 ((j + 1 : Nat) : Int) ∧ (r.take j).all isDig = true) (fun v => r.length + 1 - (intOf v).toNat)
          case atStart => exact ⟨0, Nat.zero_le _, rfl, by simp⟩
          case round =>
            obtain ⟨j, hj, rfl, hall⟩ := hrel
            have HALL := Lib.hid hall
            clear hall
            by_cases hjr : j < r.length
            · obtain ⟨x, hx⟩ : ∃ x, r[j]? = some x := ⟨_, List.getElem?_eq_getElem hjr⟩
              have hgx := GET.out j x hx
              have HX := Lib.hid hx
              have hxl := x.toNat_lt
              clear hx
              have hij : ((j + 1 : Nat) : Int) < (r.length : Int) + 1 := by omega
              by_cases h48 : x.toNat < 48
              · have hf : (r.all isDig) = false := by
                  rw [Bool.eq_false_iff]
                  intro h
                  have := List.all_eq_true.1 h x (List.mem_of_getElem? HX.out)
                  unfold isDig at this
                  simp at this; omega
                have HF := Lib.hid hf
                have e48 : decide ((x.toNat : Int) < 48) = true := by simp; omega
                clear hf
                go_wp2_with fail
                go_ret
                exact ⟨by rw [HF.out]; rfl, rfl⟩
              · have e48 : decide ((x.toNat : Int) < 48) = false := by simp; omega
                by_cases h57 : 57 < x.toNat
                · have hf : (r.all isDig) = false := by
                    rw [Bool.eq_false_iff]
                    intro h
                    have := List.all_eq_true.1 h x (List.mem_of_getElem? HX.out)
                    unfold isDig at this
                    simp at this; omega
                  have HF := Lib.hid hf
                  have e57 : decide (57 < (x.toNat : Int)) = true := by simp; omega
                  clear hf
                  go_wp2_with fail
                  go_ret
                  exact ⟨by rw [HF.out]; rfl, rfl⟩
                · have e57 : decide (57 < (x.toNat : Int)) = false := by simp; omega
                  have HM := Lib.hid (digs_more HALL.out HX.out (by unfold isDig; simp; omega))
                  go_wp2_with fail
                  go_round
                  case rel => exact ⟨j + 1, by omega, by go_num, HM.out⟩
                  case measure => simp [intOf]; omega
            · have hjl : j = r.length := by omega
              have HF : Hid ((r.all isDig) = true) := by
                have := HALL.out
                rw [hjl, List.take_length] at this
                exact this
              clear hjl
              go_wp2_with fail
              go_ret
              exact ⟨by rw [HF.out]; rfl, rfl⟩

/-- a shape as the model writes it -/
def shStr (h : List UInt8) : List UInt8 := (shapeOf h).map fun b => if b then 109 else 120

set_option maxHeartbeats 2000000 in
theorem shape_any (h : List UInt8) (w : World) : Calls Tryd.prog 51 #[S h] w fun e w' => e = .returned (S (shStr h)) ∧ w = w' := by
  by_cases h1 : h = hLam
  · subst h1
    unfold hLam
    go_enter Tryd.func51, Tryd.ntmps51
    go_wp2_with fail
    go_ret
    exact ⟨rfl, rfl⟩
  have n1 : (h == [108, 97, 109]) = false := by simpa [hLam] using h1
  by_cases h2 : h = hApp
  · subst h2
    unfold hApp at n1 ⊢
    go_enter Tryd.func51, Tryd.ntmps51
    go_wp2_with fail
    go_ret
    exact ⟨rfl, rfl⟩
  have n2 : (h == [97, 112, 112]) = false := by simpa [hApp] using h2
  by_cases h3 : h = hPair
  · subst h3
    unfold hPair at n1 n2 ⊢
    go_enter Tryd.func51, Tryd.ntmps51
    go_wp2_with fail
    go_ret
    exact ⟨rfl, rfl⟩
  have n3 : (h == [112, 97, 105, 114]) = false := by simpa [hPair] using h3
  by_cases h4 : h = hFst
  · subst h4
    unfold hFst at n1 n2 n3 ⊢
    go_enter Tryd.func51, Tryd.ntmps51
    go_wp2_with fail
    go_ret
    exact ⟨rfl, rfl⟩
  have n4 : (h == [102, 115, 116]) = false := by simpa [hFst] using h4
  by_cases h5 : h = hSnd
  · subst h5
    unfold hSnd at n1 n2 n3 n4 ⊢
    go_enter Tryd.func51, Tryd.ntmps51
    go_wp2_with fail
    go_ret
    exact ⟨rfl, rfl⟩
  have n5 : (h == [115, 110, 100]) = false := by simpa [hSnd] using h5
  by_cases h6 : h = hIf
  · subst h6
    unfold hIf at n1 n2 n3 n4 n5 ⊢
    go_enter Tryd.func51, Tryd.ntmps51
    go_wp2_with fail
    go_ret
    exact ⟨rfl, rfl⟩
  have n6 : (h == [105, 102]) = false := by simpa [hIf] using h6
  by_cases h7 : h = hLet
  · subst h7
    unfold hLet at n1 n2 n3 n4 n5 n6 ⊢
    go_enter Tryd.func51, Tryd.ntmps51
    go_wp2_with fail
    go_ret
    exact ⟨rfl, rfl⟩
  have n7 : (h == [108, 101, 116]) = false := by simpa [hLet] using h7
  have hk : shStr h = [] := by
    have e : shapeOf h = [] := by simp [shapeOf, h1, h2, h3, h4, h5, h6, h7]
    simp [shStr, e]
  rw [hk]
  clear hk h1 h2 h3 h4 h5 h6 h7
  go_enter Tryd.func51, Tryd.ntmps51
  go_wp2_with fail
  go_ret
  exact ⟨rfl, rfl⟩
end Go.Proofs.YthbidlcfahdfhaaDoor
