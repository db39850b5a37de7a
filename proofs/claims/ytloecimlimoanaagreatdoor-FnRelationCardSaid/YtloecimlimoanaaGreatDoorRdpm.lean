/- Types of parametric elements: with at most the variable a. -/
import Derived.Test.YtloecimlimoanaaGreatDoorVars
import Derived.Test.YtloecimlimoanaaGreatDoorLaw2
namespace Go.Proofs.YtloecimlimoanaaGreatDoor
open Go.RowKit Go.ChangeMaps

/-- no variable but a -/
def OnlyA (t : Ty) : Prop := ∀ n ∈ addV [] t, n = 0

def RpP (w : World) (q m : Nat) (ps : List Nat) (D : List Ty) (s : List UInt8) (e : Ending) (w' : World) : Prop :=
  ∃ ps' D', Pool w' q m ps' D' ∧ Grew w.heap.size ps D ps' D' ∧ Fr (One m) w w' ∧
    ((∃ t p, Ty.Is s t ∧ OnlyA t ∧ Has ps' D' t p ∧ e = .returned (Ptr p)) ∨ ((∀ t, Ty.Is s t → ¬ OnlyA t) ∧ e = .returned (.pointer none)))

set_option maxRecDepth 100000 in
set_option maxHeartbeats 1000000 in
theorem readParam_any (w : World) (q m : Nat) (ps : List Nat) (D : List Ty) (s : List UInt8) (hP : Pool w q m ps D) (hs : s.length ≤ maxLen) :
    Calls Tryz.prog 59 #[Ptr q, S s] w fun e w' => RpP w q m ps D s e w' := by
  go_enter Tryz.func59, Tryz.ntmps59
  go_wp2_with fail
  refine (read_any w q m ps D s 0 hP (by omega) hs).mono ?_
  rintro e w1 ⟨ps1, D1, hP1, hg1, hf1, hor⟩
  rcases hor with ⟨t, p, hi, hh, he⟩ | ⟨hno, he⟩
  · obtain rfl := he
    rw [Ty.shift_zero] at hh
    have HF1 := Lib.hid hf1
    have HG1 := Lib.hid hg1
    have HI := Lib.hid hi
    clear hf1 hg1 hP
    go_wp2_with fail
    refine (readVar_any w1 q m ps1 D1 [97] hP1 (by decide)).mono ?_
    rintro e w2 ⟨ps2, D2, hP2, hg2, hf2, hor2⟩
    obtain ⟨pa, hpa, rfl⟩ : ∃ pa, Has ps2 D2 (.v 0) pa ∧ e = .returned (Ptr pa) := by
      rcases hor2 with ⟨i, pa, hi25, hle, hpa, he⟩ | ⟨hno, _⟩
      · injection hle with hle
        have : i = 0 := (Ty.letter_inj (by decide) hi25 (show Ty.letter 0 = Ty.letter i from hle)).symm
        subst this
        exact ⟨pa, hpa, he⟩
      · exact absurd rfl (hno 0 (by decide))
    have hh2 := hh.grew hg2
    have HF2 := Lib.hid (HF1.out.trans hf2)
    have HG2 := Lib.hid (HG1.out.trans hg2 HF1.out.size)
    have hlen := addV_len t []
    have h40 : t.size ≤ 40 := hi.2.2
    have VA := Lib.hid (vars_any w2 q m ps2 D2 t p hP2 hh2 (by omega))
    have HH2 := Lib.hid hh2
    clear hf2 hg2 hor2 hh hP1 HG1 HF1 hi hh2 hP2
    go_wp2_with fail
    refine VA.out.mono ?_
    rintro e w3 ⟨A, xs, c, rfl, hP3, hB, hown, hva⟩
    have hpsl := PSl.of_own hP3 hva hown
    have HP3 := Lib.hid hP3
    have HPSL := Lib.hid hpsl
    have HVA := Lib.hid hva
    have HPA := Lib.hid hpa
    have HF3 : Hid (Fr (One m) w w3) := HF2.out.trans (Fr.of_below hB (Nat.le_refl _) _)
    have hxl : xs.length ≤ 40 := by rw [hva.1]; simp at hlen; omega
    have hxI : (xs.length : Int) ≤ 40 := by omega
    clear VA hB hown hva hpsl hpa hP3 HF2 hlen h40
    go_wp2_with fail
    go_loopw [19] (fun u wr => ∃ j : Nat, j ≤ xs.length ∧ u = .int .i64 j ∧ wr = w3 ∧ ∀ n ∈ (addV [] t).take j, n = 0) (fun u _ => xs.length - (intOf u).toNat)
    case atStart => exact ⟨0, Nat.zero_le _, rfl, rfl, by simp⟩
    case round =>
      obtain ⟨j, hj, rfl, rfl, hall⟩ := hrel
      by_cases hlt : j < xs.length
      · obtain ⟨x, hx⟩ : ∃ x, xs[j]? = some x := ⟨_, List.getElem?_eq_getElem hlt⟩
        obtain ⟨n, hn⟩ : ∃ n, (addV [] t)[j]? = some n := ⟨_, List.getElem?_eq_getElem (by rw [← HVA.out.1]; exact hlt)⟩
        obtain ⟨g, rfl, hc, cs, hbx⟩ := HPSL.out j x hx
        have hhx := HVA.out.2 j n x hn hx
        obtain ⟨ya, yb, yc, hba, _⟩ := HPA.out.blk HP3.out
        have hneq := run_neq_node hbx hba
        have HN := Lib.hid hn
        have hinj := Has.inj HP3.out hhx HPA.out
        by_cases hxe : x = pa
        · have hn0 : n = 0 := by have := hinj.1 hxe; injection this
          have hb : (!(x == pa)) = false := by simp [hxe]
          rw [hb] at hneq
          have HALL : Hid (∀ n ∈ (addV [] t).take (j + 1), n = 0) := by
            intro k hk
            rw [List.take_add_one, HN.out] at hk
            rcases List.mem_append.1 hk with hk | hk
            · exact hall k hk
            · simp at hk; rw [hk]; exact hn0
          clear hall hx hn hhx hinj hba hbx hxe hb hn0
          go_wp2_with fail
          go_roundw
          case rel => exact ⟨j + 1, by omega, by go_num, trivial, HALL.out⟩
          case measure => simp [intOf]; omega
        · have hb : (!(x == pa)) = true := by simp [hxe]
          rw [hb] at hneq
          have HE : Hid (RpP w q m ps D s (.returned (.pointer none)) wr) := ⟨ps2, D2, HP3.out, HG2.out, HF3.out, .inr ⟨fun t' ht' ha => by
            have := ht'.unique HI.out
            subst this
            have h0 := ha n (List.mem_of_getElem? HN.out)
            subst h0
            exact hxe (hinj.2 rfl), rfl⟩⟩
          clear hall hx hn hhx hinj hba hbx hxe hb
          go_wp2_with fail
          go_ret
          exact HE.out
      · have hjl : j = xs.length := by omega
        have HE : Hid (RpP w q m ps D s (.returned (Ptr p)) wr) := ⟨ps2, D2, HP3.out, HG2.out, HF3.out, .inl ⟨t, p, HI.out, fun n hn => hall n (by
          rw [hjl, HVA.out.1, List.take_length]; exact hn), HH2.out, rfl⟩⟩
        have hnlt : ¬ (j : Int) < (xs.length : Int) := by omega
        clear hall hjl
        go_wp2_with fail
        go_ret
        exact HE.out
  · obtain rfl := he
    have HE : Hid (RpP w q m ps D s (.returned (.pointer none)) w1) := ⟨ps1, D1, hP1, hg1, hf1, .inr ⟨fun t ht => (hno t ht).elim, rfl⟩⟩
    clear hP1 hg1 hf1 hno
    go_wp2_with fail
    go_ret
    exact HE.out
end Go.Proofs.YtloecimlimoanaaGreatDoor
