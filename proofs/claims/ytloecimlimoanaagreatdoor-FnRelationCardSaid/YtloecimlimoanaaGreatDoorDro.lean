/- The draw of one element of a type for one size. -/
import Derived.Test.YtloecimlimoanaaGreatDoorDrr
import Derived.Test.YtloecimlimoanaaGreatDoorDrm
import Derived.Test.YtloecimlimoanaaGreatDoorDrp
namespace Go.Proofs.YtloecimlimoanaaGreatDoor
open Go.RowKit Go.ChangeMaps

/-- an element of a type for one size -/
theorem of_draw (w : World) (r : Nat) (A : Option Addr) (n c p : Nat) (h : Rdc w r A n c p) (hp : p ≤ 80000) (s : List UInt8) (hs : s.length ≤ maxLen) (k : Int) :
    Calls Tryz.prog 34 #[Ptr r, S s, .int .i64 k] w fun e w' => DelP r A n c p w e w' := by
  obtain ⟨W1, hW1, hf1, hb1, hb2⟩ : ∃ W, W = (w.alloc (.cells #[S [97]] 9)).alloc (.cells #[.int .i64 k] 3) ∧ Fr No w W ∧ Blk W w.heap.size 9 #[S [97]] ∧ Blk W (w.heap.size + 1) 3 #[.int .i64 k] := ⟨_, rfl, ((Fr.refl _ _).alloc _).alloc _, (Blk.new _ _ _).alloc _, Blk.new_at _ _ _ (by simp)⟩
  have ED := Lib.hid (elem_draw W1 r A n c p (h.no hf1) hp s hs (some ⟨w.heap.size, 0, none⟩) (some ⟨w.heap.size + 1, 0, none⟩) [[97]] [k] 1 1 (by decide) (ssl_blk hb1 rfl) (isl_blk 0 hb2 rfl) (by decide) (by simp) (by simp))
  have HF1 := Lib.hid hf1
  clear h hf1 hb1 hb2 hp hs
  go_enter Tryz.func34, Tryz.ntmps34
  go_wp2_with fail
  rw [← hW1]
  refine ED.out.mono ?_
  rintro e w2 ⟨v, p', rfl, h1, h2, hf, hp', hr⟩
  have FIN : Hid (DelP r A n c p w (.returned (.int .i64 v)) w2) := ⟨v, p', rfl, h1, h2, (HF1.out.mono (fun _ _ h => h.elim)).trans hf, hp', hr⟩
  clear hf hr h1 h2
  go_wp2_with fail
  go_ret
  exact FIN.out
end Go.Proofs.YtloecimlimoanaaGreatDoor
