import Derived.Test.YtloecimlimoanaaGreatDoorRead
namespace Go.Proofs.YtloecimlimoanaaGreatDoor
open Go.RowKit Go.ChangeMaps

theorem Blk.shape {w : World} {p : Nat} {t : TypeId} {cs : Array Value} (h : Blk w p t cs) : w.shape? p = some (t, cs.size) := by
  unfold Blk at h
  simp [World.shape?, h]

theorem run_sameAddr {w : World} {p q : Nat} {t u : TypeId} {cs ds : Array Value} (h : Blk w p t cs) (h' : Blk w q u ds) (P : Program) :
    (sameAddr ⟨p, 0, none⟩ ⟨q, 0, none⟩).run P w = .ok (p == q) w := by
  by_cases e : p = q
  · subst e
    simp [sameAddr]
  · have hb : (p == q) = false := by simpa using e
    have f1 := h.frozen 0
    have f2 := h'.frozen 0
    have f3 := h.frozen cs.size
    have f4 := h'.frozen ds.size
    simp [sameAddr, hb, noView, viewAt, mayBeOne, stringish, h.shape, h'.shape, f1, f2, f3, f4, Result.andThen]

theorem run_equal_node {w : World} {p q : Nat} {cs ds : Array Value} (h : Blk w p 97 cs) (h' : Blk w q 97 ds) :
    (Op.equal 75 (Ptr p) (Ptr q)).run Tryz.prog w = .ok (p == q) w := by
  have hs : (sizeOf 97).run Tryz.prog w = .ok 6 w := by kernel_rfl
  unfold Op.equal Op.maxDepth
  rw [Op.equalIn]
  simp [run_underlying Tryz.underlying75, hs, run_sameAddr h h', Result.andThen]

theorem run_neq_node {w : World} {p q : Nat} {cs ds : Array Value} (h : Blk w p 97 cs) (h' : Blk w q 97 ds) :
    (binOp .neq 75 (Ptr p) (Ptr q)).run Tryz.prog w = .ok (.bool (!(p == q))) w := by
  simp only [binOp]
  simp [run_equal_node h h']

theorem run_eql_node {w : World} {p q : Nat} {cs ds : Array Value} (h : Blk w p 97 cs) (h' : Blk w q 97 ds) :
    (binOp .eql 75 (Ptr p) (Ptr q)).run Tryz.prog w = .ok (.bool (p == q)) w := by
  simp only [binOp]
  simp [run_equal_node h h']
end Go.Proofs.YtloecimlimoanaaGreatDoor
