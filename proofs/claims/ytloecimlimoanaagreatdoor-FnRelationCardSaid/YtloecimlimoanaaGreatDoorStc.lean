/- SetCount of the program and of the model. -/
import Derived.Test.YtloecimlimoanaaGreatDoorDig
import Derived.Test.YtloecimlimoanaaGreatDoorScnt
namespace Go.Proofs.YtloecimlimoanaaGreatDoor
open Go.RowKit Go.ChangeMaps

/-- what SetCount answers -/
def StcR (s : List UInt8) (ns : List (List UInt8)) (zs : List Int) (n : Int) : Prop :=
  (∃ t ms, Ty.Is s t ∧ ModelIs ns zs ms ∧ n = cntI (szs ms) t) ∨ ((∀ t ms, Ty.Is s t → ModelIs ns zs ms → False) ∧ n = -1)

theorem StcR.one {s : List UInt8} {ns : List (List UInt8)} {zs : List Int} {n n' : Int} (h : StcR s ns zs n) (h' : StcR s ns zs n') : n' = n := by
  rcases h with ⟨t, ms, i1, m1, rfl⟩ | ⟨n1, rfl⟩ <;> rcases h' with ⟨t', ms', i2, m2, rfl⟩ | ⟨n2, rfl⟩
  · rw [i1.unique i2, m1.unique m2]
  · exact (n2 t ms i1 m1).elim
  · exact (n1 t' ms' i2 m2).elim
  · rfl

def AnsStc (s : List UInt8) (ns : List (List UInt8)) (zs : List Int) (w : World) (e : Ending) (w' : World) : Prop := ∃ n, e = .returned (.int .i64 n) ∧ StcR s ns zs n ∧ Fr No w w'

theorem kn_small {μ : Nat → Option Nat} {s : List UInt8} {t : Ty} (h : Ty.Is s t) : t.kn μ = t.cnt μ := by
  unfold Ty.kn
  rw [if_pos (by have := h.2.2; omega)]

set_option maxRecDepth 100000 in
set_option maxHeartbeats 1000000 in
theorem specStc (w : World) (s : List UInt8) (A A' : Option Addr) (ns : List (List UInt8)) (zs : List Int) (c c' : Nat) (hc : ns.length ≤ c) (hss : s.length ≤ maxLen) (hN : SSl w A ns) (hZ : ISl w A' zs) (hl : ns.length ≤ 1048576) (hl' : zs.length ≤ 1048576) (hs : ∀ x ∈ ns, x.length ≤ maxLen) :
    Calls Tryz.prog 77 #[S s, .slice A ns.length c, .slice A' zs.length c'] w fun e w' => AnsStc s ns zs w e w' := by
  have HN := Lib.hid hN
  have HZ := Lib.hid hZ
  have HS := Lib.hid hs
  clear hN hZ hs
  have MV : Hid (∀ w', Fr No w w' → Calls Tryz.prog 92 #[.slice A ns.length c, .slice A' zs.length c'] w' fun e w2 => AnsB (∃ ms, ModelIs ns zs ms) w' e w2) := fun w' hf =>
    specModel w' A A' ns zs c c' hc (HN.out.keep hf (fun _ h => h.elim)) (HZ.out.keep hf (fun _ h => h.elim)) hl hl' HS.out
  go_enter Tryz.func77, Tryz.ntmps77
  go_wp2_with fail
  refine (type_any s _ hss).mono ?_
  rintro e w1 ⟨hf1, ⟨t, At, ct, hi, rfl, hsl⟩ | ⟨a0, At, mt, ct, hno, rfl⟩⟩
  · have HB : Hid (∀ w', Fr No (w1.alloc (.cells #[S t.atom, .slice At t.kids.len ct] 46)) w' → w'.cell? ⟨w1.heap.size, 0, none⟩ = some (S t.atom) ∧ w'.cell? ⟨w1.heap.size, 1, none⟩ = some (.slice At t.kids.len ct)) := by
      intro w' hf
      have := (Blk.new w1 46 #[S t.atom, .slice At t.kids.len ct]).fr hf (fun h => h)
      exact ⟨(this.cell 0).trans rfl, (this.cell 1).trans rfl⟩
    have HFA := Lib.hid (hf1.alloc (.cells #[S t.atom, .slice At t.kids.len ct] 46))
    have HFB : Hid (Fr No w1 (w1.alloc (.cells #[S t.atom, .slice At t.kids.len ct] 46))) := (Fr.refl _ _).alloc _
    have HI := Lib.hid hi
    have HSL := Lib.hid hsl
    clear hi hsl hf1
    go_wp2_with fail
    generalize w1.alloc (.cells #[S t.atom, .slice At t.kids.len ct] 46) = W at HB HFA HFB ⊢
    refine (MV.out _ HFA.out).mono ?_
    rintro e w2 ⟨b, rfl, hb, hf2⟩
    have HV := Lib.hid hb
    clear hb
    cases b
    · have HR : Hid (StcR s ns zs (-1)) := .inr ⟨fun t' ms _ h => (by have := HV.out.2 ⟨ms, h⟩; cases this), rfl⟩
      have HF2 := Lib.hid (HFA.out.trans hf2)
      clear hf2
      go_wp2_with fail
      go_ret
      exact ⟨_, rfl, HR.out, HF2.out⟩
    · obtain ⟨ms, hm⟩ := HV.out.1 (by trivial)
      have HM := Lib.hid hm
      have hfb := HFB.out.trans hf2
      have CT := Lib.hid (ct_any ns zs ms hm t HI.out.2.1 w2 (New w w1) At ct A A' c c' (fun b hb => by have := hb.2; have := hfb.size; omega) (HSL.out.fr (fun b hb => hb.2) hfb) (HN.out.keep (HFA.out.trans hf2) (fun _ h => h.elim)) (HZ.out.keep (HFA.out.trans hf2) (fun _ h => h.elim)))
      obtain ⟨x0, x1⟩ := HB.out w2 hf2
      have HF2 := Lib.hid (HFA.out.trans hf2)
      have HR : Hid (StcR s ns zs (cntI (szs ms) t)) := .inl ⟨t, ms, HI.out, hm, rfl⟩
      clear hm hfb hf2 HV
      go_wp2_with fail
      refine CT.out.mono ?_
      rintro e w3 ⟨rfl, hf3⟩
      go_wp2_with fail
      go_ret
      exact ⟨_, rfl, HR.out, HF2.out.trans hf3⟩
  · have HR : Hid (StcR s ns zs (-1)) := .inr ⟨fun t' ms h _ => hno t' h, rfl⟩
    have HFA := Lib.hid (hf1.alloc (.cells #[S a0, .slice At mt ct] 46))
    clear hno hf1
    go_wp2_with fail
    go_ret
    exact ⟨_, rfl, HR.out, HFA.out⟩
end Go.Proofs.YtloecimlimoanaaGreatDoor
