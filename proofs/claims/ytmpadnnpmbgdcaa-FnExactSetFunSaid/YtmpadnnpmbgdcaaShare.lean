import Derived.Test.YtmpadnnpmbgdcaaPool
import Derived.WalkLawsBesides
namespace Go.Proofs.Ytmpadnnpmbgdcaa
open Go.RowKit Go.ChangeMaps

theorem zero_node (w : World) : (zeroValue 56).run Try.prog w = .ok (.pointer none) w := by kernel_rfl

set_option maxHeartbeats 400000 in
theorem share_old (w : World) (q m n : Nat) (ty : TypeId) (f : Key → Option Value) (s : List UInt8) (a b : Int) (nu sz : Int) (l r : Value) (p : Nat)
    (hq : Blk w q ty #[.map (some m)]) (hm : MapAt w encK m n f) (hf : f ⟨s, a, b⟩ = some (Ptr p)) :
    Calls Try.prog 83 #[Ptr q, .agg #[S s, .int .i64 a, .int .i64 b], .agg #[S [], .int .i64 nu, l, r, .int .i64 sz, .int .i64 0]] w
      fun e w' => e = .returned (Ptr p) ∧ Fr No w w' := by
  have hc : w.cell? ⟨q, 0, none⟩ = some (.map (some m)) := (hq.cell 0).trans rfl
  have hl := hq.lt
  have hml := hm.lt
  have hlook : ∀ o o2 : Obj, (Instr.lookup 89 (.map (some m)) (.agg #[S s, .int .i64 a, .int .i64 b]) false).run Try.prog ((w.alloc o).alloc o2).drew = .ok (Ptr p) ((w.alloc o).alloc o2).drew := by
    intro o o2
    have hm2 : MapAt ((w.alloc o).alloc o2).drew encK m n f := hm.keep (((((Fr.refl No w).alloc o).alloc o2).drew).block m hml (fun h => h))
    have := hm2.lookup key_kind Try.underlying89 (zero_node _) ⟨s, a, b⟩
    rw [hf] at this
    exact this
  go_enter Try.func83, Try.ntmps83
  go_wp2
  go_region
  all_goals go_wp2
  go_ret
  exact ⟨rfl, (((Fr.refl _ _).alloc _).alloc _).drew⟩

set_option maxHeartbeats 400000 in
theorem share_new (w : World) (q m n : Nat) (ty : TypeId) (f : Key → Option Value) (s : List UInt8) (a b : Int) (nu sz : Int) (l r : Value)
    (hq : Blk w q ty #[.map (some m)]) (hm : MapAt w encK m n f) (hf : f ⟨s, a, b⟩ = none) :
    Calls Try.prog 83 #[Ptr q, .agg #[S s, .int .i64 a, .int .i64 b], .agg #[S [], .int .i64 nu, l, r, .int .i64 sz, .int .i64 0]] w
      fun e w' => e = .returned (Ptr (w.heap.size + 1)) ∧ Fr (One m) w w' ∧ w'.heap.size = w.heap.size + 2 ∧ MapAt w' encK m (n + 1) (updK f ⟨s, a, b⟩ (Ptr (w.heap.size + 1))) ∧
        Blk w' (w.heap.size + 1) 61 #[S s, .int .i64 nu, l, r, .int .i64 sz, .int .i64 n] := by
  have hc : w.cell? ⟨q, 0, none⟩ = some (.map (some m)) := (hq.cell 0).trans rfl
  have hl := hq.lt
  have hml := hm.lt
  have hlook : ∀ o o2 : Obj, (Instr.lookup 89 (.map (some m)) (.agg #[S s, .int .i64 a, .int .i64 b]) false).run Try.prog ((w.alloc o).alloc o2).drew = .ok (.pointer none) ((w.alloc o).alloc o2).drew := by
    intro o o2
    have hm2 : MapAt ((w.alloc o).alloc o2).drew encK m n f := hm.keep (((((Fr.refl No w).alloc o).alloc o2).drew).block m hml (fun h => h))
    have := hm2.lookup key_kind Try.underlying89 (zero_node _) ⟨s, a, b⟩
    rw [hf] at this
    exact this
  have hlen : ∀ o o2 : Obj, MapAt ((w.alloc o).alloc o2).drew encK m n f := fun o o2 => hm.keep (((((Fr.refl No w).alloc o).alloc o2).drew).block m hml (fun h => h))
  have hm3 : MapAt ((w.alloc (Obj.cells #[S s, .int .i64 a, .int .i64 b] 123)).alloc (Obj.cells #[S s, .int .i64 nu, l, r, .int .i64 sz, .int .i64 n] 61)).drew.drew encK m n f := hlen _ _
  obtain ⟨w1, hrun, h1, h2, h3⟩ := hm3.update key_kind Try.underlying89 ⟨s, a, b⟩ (Ptr (w.heap.size + 1))
  rw [hf] at h1
  have Hend : Hid (Fr (One m) w w1 ∧ w1.heap.size = w.heap.size + 2 ∧ MapAt w1 encK m (n + 1) (updK f ⟨s, a, b⟩ (Ptr (w.heap.size + 1))) ∧
        Blk w1 (w.heap.size + 1) 61 #[S s, .int .i64 nu, l, r, .int .i64 sz, .int .i64 n]) := by
    refine ⟨(((((Fr.refl (One m) w).alloc _).alloc _).drew).drew).turned h2 (.inl rfl), by simpa using h3, h1, ?_⟩
    refine Blk.keep (w := ((w.alloc (Obj.cells #[S s, .int .i64 a, .int .i64 b] 123)).alloc (Obj.cells #[S s, .int .i64 nu, l, r, .int .i64 sz, .int .i64 n] 61)).drew.drew) ?_ ?_
    · exact ((Blk.new_at (w.alloc _) 61 #[S s, .int .i64 nu, l, r, .int .i64 sz, .int .i64 n] (by simp)).drew).drew
    · exact h2.grown.block _ (by simp) (by simp; omega)
  have HW := Lib.hid hlen
  simp only [encK] at hrun
  clear h1 h2 h3 hm3 hlen
  go_enter Try.func83, Try.ntmps83
  go_wp2
  go_region
  all_goals go_wp2_with (at_len; refine wpList_lenK _ rfl _ _ rfl Try.underlying89 m n f (HW.out _ _) rfl ?_)
  go_region
  all_goals go_wp2
  go_ret
  exact ⟨rfl, Hend.out⟩
end Go.Proofs.Ytmpadnnpmbgdcaa
