import Derived.Test.YtjkkjdmfhdoojaaLaw4
namespace Go.Proofs.Ytjkkjdmfhdoojaa
open Go.RowKit Go.ChangeMaps

theorem letter_byte : ∀ n : Fin 25, UInt8.ofNat (if 14 ≤ n.val then 97 + (n.val + 1) else 97 + n.val) = Ty.letter n.val := by decide

theorem byte_text2 (W : World) (o' o : Obj) (z : Int) (h : o = .cells #[.int .u8 z] 5) :
    (convert 22 9 (.slice (some ⟨W.heap.size + 1, 0, none⟩) 1 1)).run Try.prog ((W.alloc o').alloc o) = .ok (S [UInt8.ofNat z.toNat]) ((W.alloc o').alloc o) := by
  have := byte_text (W.alloc o') o z h
  simpa using this

set_option maxRecDepth 100000 in
set_option maxHeartbeats 1000000 in
theorem letter_any (n : Nat) (hn : n < 25) (w : World) :
    Calls Try.prog 76 #[.int .i64 n] w fun e w' => e = .returned (.agg #[S [Ty.letter n], .slice none 0 0]) ∧ Fr No w w' := by
  have hb := letter_byte ⟨n, hn⟩
  have kc := fun (o' : Obj) (z : Int) => byte_text2 w o' (.cells #[.int .u8 z] 5) z rfl
  by_cases h14 : 14 ≤ n
  · have hd : decide ((14 : Int) ≤ (n : Int)) = true := by simp; omega
    simp only [h14, if_true] at hb
    have HB := Lib.hid hb
    clear hb
    go_enter Try.func76, Try.ntmps76
    go_wp2_with fail
    refine bodyPost_ret (v := .agg #[S [97 + (UInt8.ofNat n + 1)], .slice none 0 0]) (by simp [results, Try.results76, go_sem]) rfl ?_
    refine ⟨?_, ((Fr.refl _ _).alloc _).alloc _⟩
    rw [← HB.out, UInt8.ofNat_add, UInt8.ofNat_add]
    rfl
  · have hd : decide ((14 : Int) ≤ (n : Int)) = false := by simp; omega
    simp only [h14, if_false] at hb
    have HB := Lib.hid hb
    clear hb
    go_enter Try.func76, Try.ntmps76
    go_wp2_with fail
    refine bodyPost_ret (v := .agg #[S [97 + UInt8.ofNat n], .slice none 0 0]) (by simp [results, Try.results76, go_sem]) rfl ?_
    refine ⟨?_, ((Fr.refl _ _).alloc _).alloc _⟩
    rw [← HB.out, UInt8.ofNat_add]
    rfl
end Go.Proofs.Ytjkkjdmfhdoojaa
