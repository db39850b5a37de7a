import Derived.Test.YtngbpcphkfmncaaLaw4
namespace Go.Proofs.Ytngbpcphkfmncaa
open Go.RowKit Go.ChangeMaps

theorem letter_byte : ∀ n : Fin 25, UInt8.ofNat (if 14 ≤ n.val then 97 + (n.val + 1) else 97 + n.val) = Ty.letter n.val := by decide

theorem byte_text2 (W : World) (o' o : Obj) (z : Int) (h : o = .cells #[.int .u8 z] 5) :
    (convert 22 9 (.slice (some ⟨W.heap.size + 1, 0, none⟩) 1 1)).run Try.prog ((W.alloc o').alloc o) = .ok (S [UInt8.ofNat z.toNat]) ((W.alloc o').alloc o) := by
  have := byte_text (W.alloc o') o z h
  simpa using this

end Go.Proofs.Ytngbpcphkfmncaa
