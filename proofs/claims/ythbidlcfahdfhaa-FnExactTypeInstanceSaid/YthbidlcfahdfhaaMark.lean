import Derived.Test.YthbidlcfahdfhaaHas
import Derived.Laws.BytesArg
namespace Go.Proofs.Ythbidlcfahdfhaa
open Go.RowKit Go.ChangeMaps

def digs : Nat → Nat → List UInt8 → List UInt8
  | 0, _, acc => acc
  | n + 1, k, acc => if k = 0 then acc else digs n (k / 10) (UInt8.ofNat (48 + k % 10) :: acc)

def markOf (k : Nat) : List UInt8 := if k = 0 then [109, 48] else 109 :: digs k k []

theorem digs_one : ∀ (n m k : Nat) (acc : List UInt8), k ≤ n → k ≤ m → digs n k acc = digs m k acc
  | 0, 0, _, _, _, _ => rfl
  | 0, m + 1, k, acc, h, _ => by
    have : k = 0 := by omega
    simp [digs, this]
  | n + 1, 0, k, acc, _, h => by
    have : k = 0 := by omega
    simp [digs, this]
  | n + 1, m + 1, k, acc, h1, h2 => by
    simp only [digs]
    split
    · rfl
    · exact digs_one n m (k / 10) _ (by omega) (by omega)

theorem digs_step (k : Nat) (hk : 0 < k) (acc : List UInt8) : digs k k acc = digs (k / 10) (k / 10) (UInt8.ofNat (48 + k % 10) :: acc) := by
  obtain ⟨n, rfl⟩ : ∃ n, k = n + 1 := ⟨k - 1, by omega⟩
  rw [digs, if_neg (by omega)]
  exact digs_one _ _ _ _ (by omega) (Nat.le_refl _)

theorem byte_text (W : World) (o : Obj) (z : Int) (h : o = .cells #[.int .u8 z] 5) :
    (convert 22 9 (.slice (some ⟨W.heap.size, 0, none⟩) 1 1)).run Try.prog (W.alloc o) = .ok (S [UInt8.ofNat z.toNat]) (W.alloc o) := by
  subst h
  have := run_convert_bytes_arg (P := Try.prog) (W.alloc (.cells #[.int .u8 z] 5)) 22 5 Try.underlying22 Try.underlying5 W.heap.size 0 1 1 [z] rfl
    (fun i hi => by
      have : i = 0 := by omega
      subst this
      rw [World.cell?_alloc_new]
      rfl) 9 Try.underlying9
  exact this

set_option maxRecDepth 100000 in
set_option maxHeartbeats 1000000 in
theorem mark_any (k : Nat) (w : World) (hk : k ≤ 1000000) :
    Calls Try.prog 66 #[.int .i64 k] w fun e w' => e = .returned (S (markOf k)) ∧ Fr No w w' := by
  by_cases h0 : k = 0
  · subst h0
    go_enter Try.func66, Try.ntmps66
    go_wp2_with fail
    go_ret
    exact ⟨rfl, Fr.refl _ _⟩
  · have hpos : 0 < (k : Int) := by omega
    have HM : Hid (markOf k = 109 :: digs k k []) := by show _ = _; simp [markOf, h0]
    have hk' : (k : Int) ≤ 1000000 := by omega
    clear h0
    go_enter Try.func66, Try.ntmps66
    go_wp2_with fail
    have kc := fun (W : World) (z : Int) => byte_text W (.cells #[.int .u8 z] 5) z rfl
    go_loopw [0, 3] (fun v o wr => ∃ (j : Nat) (acc : List UInt8), j ≤ k ∧ v = .int .i64 j ∧ o = S acc ∧ acc.length + j ≤ k ∧ digs k k [] = digs j j acc ∧ Fr No w wr) (fun v _ _ => (intOf v).toNat)
    case atStart => exact ⟨k, [], Nat.le_refl _, rfl, rfl, by simp, rfl, Fr.refl _ _⟩
    case round =>
      obtain ⟨j, acc, hj, rfl, rfl, hlen, heq, hfr⟩ := hrel
      have HE := Lib.hid heq
      clear heq
      have z0 : (j : Int) ≤ 1000000 := by omega
      by_cases hj0 : 0 < j
      · have z1 : 0 < (j : Int) := by omega
        go_wp2_with fail
        refine ⟨⟨j / 10, (48 + UInt8.ofNat (j % 10)) :: acc, by omega, congrArg (Value.int .i64) (by omega), congrArg Value.string (ByteArray.ext (Array.toList_inj.1 (by simp))), by simp; omega, ?_, hfr.alloc _⟩, by simp only [intOf]; omega⟩
        rw [HE.out, digs_step j hj0, UInt8.ofNat_add]
        rfl
      · have hj1 : j = 0 := by omega
        subst hj1
        go_wp2
        go_ret
        have hm : markOf k = 109 :: acc := by rw [HM.out, HE.out]; rfl
        exact ⟨ret_str (by rw [hm]; simp), hfr⟩
end Go.Proofs.Ythbidlcfahdfhaa
