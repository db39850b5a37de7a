/- A number in a range. -/
import Derived.Test.YtloecimlimoanaaGreatDoorPre
namespace Go.Proofs.YtloecimlimoanaaGreatDoor
open Go.RowKit Go.ChangeMaps

set_option maxHeartbeats 1000000 in
theorem in_any (w : World) (a b c : Int) :
    Calls Tryz.prog 39 #[.int .i64 a, .int .i64 b, .int .i64 c] w fun e w' => e = .returned (.bool (decide (b ≤ a ∧ a ≤ c))) ∧ w = w' := by
  by_cases h1 : b ≤ a
  · by_cases h2 : a ≤ c
    · have hd : decide (b ≤ a ∧ a ≤ c) = true := by simp [h1, h2]
      rw [hd]
      go_enter Tryz.func39, Tryz.ntmps39
      go_wp2_with fail
      go_ret
      exact ⟨rfl, rfl⟩
    · have hd : decide (b ≤ a ∧ a ≤ c) = false := by simp [h2]
      rw [hd]
      have h2' : c < a := by omega
      go_enter Tryz.func39, Tryz.ntmps39
      go_wp2_with fail
      go_ret
      first | exact ⟨rfl, rfl⟩ | exact ⟨ret_bool (by simp; omega), rfl⟩
  · have hd : decide (b ≤ a ∧ a ≤ c) = false := by simp [h1]
    rw [hd]
    have h1' : a < b := by omega
    go_enter Tryz.func39, Tryz.ntmps39
    go_wp2_with fail
    go_ret
    first | exact ⟨rfl, rfl⟩ | exact ⟨ret_bool (by simp; omega), rfl⟩

end Go.Proofs.YtloecimlimoanaaGreatDoor
