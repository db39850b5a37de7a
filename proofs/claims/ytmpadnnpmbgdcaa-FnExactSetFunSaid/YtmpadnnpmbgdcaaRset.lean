/- The set of a type that a text is, in a model that two lists are. -/
import Derived.Test.YtmpadnnpmbgdcaaCtr
import Derived.Test.YtmpadnnpmbgdcaaOpn
namespace Go.Proofs.Ytmpadnnpmbgdcaa
open Go.RowKit Go.ChangeMaps

/-- a pool with a union that has joined nothing -/
structure Fresh (q m : Nat) (ps : List Nat) (D : List Ty) (u ml ms : Nat) (w : World) : Prop where
  pool : Pool w q m ps D
  blk : Blk w u 129 #[Ptr q, .map (some ml), .map (some ms)]
  map : MapAt w encI ml 0 (fun _ => none)

theorem lead_fresh (q m : Nat) (ps : List Nat) (D : List Ty) (u ml ms : Nat) : Lead u ml (fun b => b = q ∨ b = m ∨ b ∈ ps ∨ b = u ∨ b = ml) (fun p t => Has ps D t p) (Fresh q m ps D u ml ms) where
  call w p t hQ hp := by
    obtain ⟨x, y, i, hb, hk⟩ := hp.blk hQ.pool
    refine (lead_none w u ml ms q p _ i hQ.blk hQ.map hb rfl).mono ?_
    rintro e w' ⟨rfl, n, rfl⟩
    refine ⟨p, rfl, ⟨hQ.pool.keep (fun _ _ _ => rfl), hQ.blk, hQ.map.keep rfl⟩, hp, (Fr.refl _ w).drewN n, num t, x, y, t.size, i, hb, ?_⟩
    cases t with
    | v j => exact ⟨rfl, hk⟩
    | o => exact hk
    | n f l r =>
      obtain ⟨il, ir, pl, pr, h1, h2, h3, h4, h5, h6⟩ := hk
      exact ⟨pl, pr, h5, h6, ⟨il, h1, h3⟩, ⟨ir, h2, h4⟩⟩
  uniq w p t t' hQ h h' := (Has.inj hQ.pool h h').1 rfl
  node w p t hQ h := by
    obtain ⟨x, y, i, hb, _⟩ := h.blk hQ.pool
    exact ⟨_, hb⟩
  keep w w' T hQ hf hT := ⟨hQ.pool.fr hf (fun h => hT _ h (.inl rfl)) (fun h => hT _ h (.inr (.inl rfl))) (fun p hp h => hT _ h (.inr (.inr (.inl hp)))), hQ.blk.fr hf (fun h => hT _ h (.inr (.inr (.inr (.inl rfl))))), hQ.map.keep (hf.block ml hQ.map.lt (fun h => hT _ h (.inr (.inr (.inr (.inr rfl))))))⟩
  map w hQ := by
    obtain ⟨es, clk, hb, _⟩ := hQ.map
    exact ⟨es, clk, hb⟩

set_option maxHeartbeats 400000 in
theorem newUnion_any (w : World) (q : Nat) :
    Calls Try.prog 69 #[Ptr q] w fun e w' => e = .returned (Ptr (w.heap.size + 2)) ∧
      ((w.alloc (.map #[] 0)).alloc (.map #[] 0)).alloc (.cells #[Ptr q, .map (some w.heap.size), .map (some (w.heap.size + 1))] 129) = w' := by
  have hmm := @run_makeMap Try.prog
  go_enter Try.func69, Try.ntmps69
  go_wp2
  go_ret
  exact ⟨rfl, rfl⟩

set_option maxHeartbeats 400000 in
theorem newCounter_any (w : World) (u mz : Nat) :
    Calls Try.prog 73 #[Ptr u, .map (some mz)] w fun e w' => e = .returned (Ptr (w.heap.size + 1)) ∧
      (w.alloc (.map #[] 0)).alloc (.cells #[Ptr u, .map (some mz), .map (some w.heap.size)] 134) = w' := by
  have hmm := @run_makeMap Try.prog
  go_enter Try.func73, Try.ntmps73
  go_wp2
  go_ret
  exact ⟨rfl, rfl⟩

/-- what readSet answers -/
def RsP (s : List UInt8) (ns : List (List UInt8)) (zs : List Int) (w : World) (e : Ending) (w' : World) : Prop :=
  Fr No w w' ∧ ((∃ t ms v, Ty.Is s t ∧ ModelIs ns zs ms ∧ e = .returned v ∧ SetV w' (szs ms) t v) ∨ ((∀ t ms, Ty.Is s t → ModelIs ns zs ms → False) ∧ e = .returned (.pointer none)))

/-- behind the union and the counter -/
theorem counter_ready {w : World} {q m mz : Nat} {ps : List Nat} {D : List Ty} {μ : Nat → Option Nat} (hP : Pool w q m ps D) (hz : SzAt w mz μ) (hμ : Sizes μ) {w1 w2 : World}
    (h1 : ((w.alloc (.map #[] 0)).alloc (.map #[] 0)).alloc (.cells #[Ptr q, .map (some w.heap.size), .map (some (w.heap.size + 1))] 129) = w1)
    (h2 : (w1.alloc (.map #[] 0)).alloc (.cells #[Ptr (w.heap.size + 2), .map (some mz), .map (some w1.heap.size)] 134) = w2) :
    CsAt (w.heap.size + 2) w.heap.size mz w1.heap.size (w1.heap.size + 1) (fun p t => Has ps D t p) (Fresh q m ps D (w.heap.size + 2) w.heap.size (w.heap.size + 1)) μ w2 ∧
    CsOk w.heap.size mz w1.heap.size (fun b => b = q ∨ b = m ∨ b ∈ ps ∨ b = w.heap.size + 2 ∨ b = w.heap.size) μ ∧ Fr No w w2 ∧ w.heap.size ≤ w1.heap.size := by
  have hf1 : Fr No w w1 := by subst h1; exact (((Fr.refl No w).alloc _).alloc _).alloc _
  have hf2 : Fr No w1 w2 := by subst h2; exact ((Fr.refl No w1).alloc _).alloc _
  have hs1 : w1.heap.size = w.heap.size + 3 := by subst h1; simp
  have hml : MapAt w1 encI w.heap.size 0 (fun _ => none) := by
    subst h1
    exact (MapAt.made w encI).keep ((Below.heap_alloc _ _ _ (by simp; omega)).trans (Below.heap_alloc _ _ _ (by simp)))
  have hu : Blk w1 (w.heap.size + 2) 129 #[Ptr q, .map (some w.heap.size), .map (some (w.heap.size + 1))] := by
    subst h1; exact Blk.new_at _ _ _ (by simp)
  have hmk : MapAt w2 (fun p : Nat => Ptr p) w1.heap.size 0 (fun _ => none) := by
    subst h2; exact (MapAt.made w1 _).keep (Below.heap_alloc _ _ _ (by simp))
  have hc : Blk w2 (w1.heap.size + 1) 134 #[Ptr (w.heap.size + 2), .map (some mz), .map (some w1.heap.size)] := by
    subst h2; exact Blk.new_at _ _ _ (by simp)
  have hmz : mz < w.heap.size := by obtain ⟨k, f, h, _⟩ := hz; exact h.lt
  have hlow : q < w.heap.size ∧ m < w.heap.size ∧ ∀ p ∈ ps, p < w.heap.size := ⟨hP.head.lt, by obtain ⟨f, hm, _⟩ := hP.map; exact hm.lt, fun _ hp => hP.lt hp⟩
  have hf := hf1.trans hf2
  refine ⟨⟨⟨hP.fr hf (fun h => h) (fun h => h) (fun _ _ h => h), hu.fr hf2 (fun h => h), hml.keep (hf2.block _ hml.lt (fun h => h))⟩, hc, hz.fr hf (fun h => h), 0, _, hmk, fun p v h => by cases h⟩, ⟨by omega, by omega, by omega, ?_, hμ⟩, hf, by omega⟩
  rintro (h | h | h | h | h)
  · have := hlow.1; omega
  · have := hlow.2.1; omega
  · have := hlow.2.2 _ h; omega
  · omega
  · omega

set_option maxRecDepth 100000 in
set_option maxHeartbeats 1000000 in
theorem readSet_any (w : World) (s : List UInt8) (A A' : Option Addr) (ns : List (List UInt8)) (zs : List Int) (c c' : Nat) (hss : s.length ≤ maxLen) (hN : SSl w A ns) (hZ : ISl w A' zs) (hl : ns.length ≤ 2000000) (hl' : zs.length ≤ 2000000) (hs : ∀ x ∈ ns, x.length ≤ maxLen) :
    Calls Try.prog 51 #[S s, .slice A ns.length c, .slice A' zs.length c'] w fun e w' => RsP s ns zs w e w' := by
  have HN := Lib.hid hN
  have HZ := Lib.hid hZ
  have HS := Lib.hid hs
  clear hN hZ hs
  have RM : Hid (∀ w', Fr No w w' → Calls Try.prog 49 #[.slice A ns.length c, .slice A' zs.length c'] w' fun e w2 => RdM ns zs w' e w2) := fun w' hf =>
    readModel_any w' A A' ns zs c c' (HN.out.keep hf (fun _ h => h.elim)) (HZ.out.keep hf (fun _ h => h.elim)) hl hl' HS.out
  go_enter Try.func51, Try.ntmps51
  go_wp2_with fail
  refine (newPool_any _).mono ?_
  rintro e w1 ⟨rfl, rfl⟩
  have hP := pool_start w
  have hf0 : Fr No w ((w.alloc (.map #[] 0)).alloc (.cells #[.map (some w.heap.size)] 91)) := ((Fr.refl _ _).alloc _).alloc _
  generalize (w.alloc (.map #[] 0)).alloc (.cells #[.map (some w.heap.size)] 91) = w1 at hP hf0 ⊢
  go_wp2_with fail
  refine (read_any w1 _ _ [] [] s 0 hP (by omega) hss).mono ?_
  rintro e w2 ⟨ps, D, hP2, hg, hf, hor⟩
  have hfr : Fr No w w2 := hf0.then_ hf (fun i hi e => by unfold One at e; omega)
  clear hf hf0 hP hg
  rcases hor with ⟨t, p, hi, hh, he⟩ | ⟨hno, he⟩
  · obtain rfl := he
    rw [Ty.shift_zero] at hh
    go_wp2_with fail
    refine (RM.out w2 hfr).mono ?_
    rintro e w3 ⟨hf3, ⟨ms, mb, hm, rfl, hsz, hmb⟩ | ⟨hno, rfl⟩⟩
    · have hP3 := hP2.fr hf3 (fun h => h) (fun h => h) (fun _ _ h => h)
      have HM := Lib.hid hm
      have HF := Lib.hid (hfr.trans hf3)
      have HI := Lib.hid hi
      clear hP2 hfr hf3 hi hmb
      go_wp2_with fail
      refine (newUnion_any _ _).mono ?_
      rintro e w4 ⟨rfl, hw4⟩
      have HW4 := Lib.hid hw4
      clear hw4
      go_wp2_with fail
      refine (newCounter_any _ _ _).mono ?_
      rintro e w5 ⟨rfl, hw5⟩
      obtain ⟨hC, hO, hf5, hle⟩ := counter_ready hP3 hsz hm.sz HW4.out hw5
      have CALL := Lib.hid (ofs_any (lead_fresh _ _ _ _ _ _ _) hO t w5 p hC hh)
      have HF5 := Lib.hid hf5
      have HLE := Lib.hid (show w.heap.size ≤ w3.heap.size from HF.out.size)
      have HLE2 := Lib.hid hle
      clear hw5 hC hO hf5 hP3 hsz hh hle hm
      go_wp2_with fail
      refine CALL.out.mono ?_
      rintro e w6 ⟨v, rfl, hv, _, hf6⟩
      have HV := Lib.hid hv
      have HF6 : Hid (Fr No w w6) := (HF.out.trans HF5.out).then_ hf6 (fun i hi e => by have := HLE.out; have := HLE2.out; rcases e with e | e <;> omega)
      clear hv hf6
      go_wp2_with fail
      go_ret
      exact ⟨HF6.out, .inl ⟨t, ms, v, HI.out, HM.out, rfl, HV.out⟩⟩
    · have HNO := Lib.hid hno
      have HF := Lib.hid (hfr.trans hf3)
      clear hno hfr hf3 hP2 hh
      go_wp2_with fail
      go_ret
      exact ⟨HF.out, .inr ⟨fun t' ms' _ h => HNO.out ms' h, rfl⟩⟩
  · obtain rfl := he
    have HNO := Lib.hid hno
    clear hno
    go_wp2_with fail
    refine (RM.out w2 hfr).mono ?_
    rintro e w3 ⟨hf3, hor⟩
    have HF := Lib.hid (hfr.trans hf3)
    obtain ⟨v, bb, rfl⟩ : ∃ v bb, e = .returned (.tuple #[v, .bool bb]) := by
      rcases hor with ⟨ms, mb, _, rfl, _⟩ | ⟨_, rfl⟩ <;> exact ⟨_, _, rfl⟩
    clear hor hfr hf3 hP2
    go_wp2_with fail
    go_ret
    exact ⟨HF.out, .inr ⟨fun t' ms' h _ => HNO.out t' h, rfl⟩⟩
end Go.Proofs.Ytmpadnnpmbgdcaa
