import Derived.Test.YtjgbihcnfhbalaaDoorLaw2
import Derived.Test.YtjgbihcnfhbalaaDoorHas
import Derived.BigQuiet
import Derived.Deep.QuietTactic
namespace Go.Proofs.YtjgbihcnfhbalaaDoor
open Go.RowKit Go.ChangeMaps

theorem Pool.drewN {w : World} {q m : Nat} {ps : List Nat} {D : List Ty} (h : Pool w q m ps D) (n : Nat) : Pool (w.drewN n) q m ps D := h.keep fun _ _ _ => rfl

theorem letter_cut_all : ∀ j : Fin 25, ((ByteArray.mk #[97, 98, 99, 100, 101, 102, 103, 104, 105, 106, 107, 108, 109, 110, 112, 113, 114, 115, 116, 117, 118, 119, 120, 121, 122]).extract j.val (j.val + 1)).data.toList = [Ty.letter j.val] := by decide +kernel

theorem letter_cut (j : Nat) (h : j < 25) : ((ByteArray.mk #[97, 98, 99, 100, 101, 102, 103, 104, 105, 106, 107, 108, 109, 110, 112, 113, 114, 115, 116, 117, 118, 119, 120, 121, 122]).extract j (j + 1)).data.toList = [Ty.letter j] := letter_cut_all ⟨j, h⟩

def Quiet (w : World) (v : Value) (e : Ending) (w' : World) : Prop := e = .returned v ∧ ∃ n, w' = w.drewN n

theorem sgn_ne (f : Bool) (l r : Ty) : sgn (.n f l r) = [Ty.sign f] := rfl

set_option maxRecDepth 100000 in
set_option maxHeartbeats 2000000 in
theorem text_any (q m : Nat) (ps : List Nat) (D : List Ty) (t : Ty) : t.lets → t.size ≤ 1000 → ∀ (w : World) (p : Nat), Pool w q m ps D → Has ps D t p →
    Calls Tryd.prog 87 #[Ptr p] w fun e w' => e = .returned (S t.text) ∧ ∃ n, w' = w.drewN n := by
  induction t with
  | v j =>
    intro hl _ w p hP h
    obtain ⟨x, y, k, hb, rfl, rfl⟩ := h.blk hP
    have c0 : w.cell? ⟨p, 0, none⟩ = some (S []) := (hb.cell 0).trans rfl
    have c1 : w.cell? ⟨p, 1, none⟩ = some (.int .i64 (j : Int)) := (hb.cell 1).trans rfl
    have HB := Lib.hid hb
    have hj : j < 25 := hl
    have z1 : (0 : Int) ≤ (j : Int) := by omega
    have z2 : (j : Int) < 25 := by omega
    have z3 : IntKind.i64.wrap ((j : Int) + 1) = ((j + 1 : Nat) : Int) := by rw [IntWalk.i64_in _ (by omega)]; omega
    have Z4 := Lib.hid (letter_cut j hj)
    clear hb hl
    go_enter Tryd.func87, Tryd.ntmps87
    go_wp2_with fail
    refine (compound_no _ _ _ _ _ _ _ HB.out).mono ?_
    rintro e w' ⟨rfl, rfl⟩
    go_wp2_with fail
    go_quiet (fail)
    go_wp2
    go_ret
    exact ⟨ret_str Z4.out, _, rfl⟩
  | o =>
    intro hl _ w p hP h
    obtain ⟨x, y, k, hb, rfl, rfl⟩ := h.blk hP
    have c0 : w.cell? ⟨p, 0, none⟩ = some (S [111]) := (hb.cell 0).trans rfl
    have HB := Lib.hid hb
    clear hb
    go_enter Tryd.func87, Tryd.ntmps87
    go_wp2_with fail
    refine (compound_no _ _ _ _ _ _ _ HB.out).mono ?_
    rintro e w' ⟨rfl, rfl⟩
    go_wp2
    go_ret
    exact ⟨rfl, 0, rfl⟩
  | n f l r ihl ihr =>
    intro hlt hsz w p hP h
    obtain ⟨pl, pr, k, hb, hl, hr⟩ := h.kids hP
    have c0 : w.cell? ⟨p, 0, none⟩ = some (S [Ty.sign f]) := (hb.cell 0).trans rfl
    have c2 : w.cell? ⟨p, 2, none⟩ = some (Ptr pl) := (hb.cell 2).trans rfl
    have c3 : w.cell? ⟨p, 3, none⟩ = some (Ptr pr) := (hb.cell 3).trans rfl
    have HB := Lib.hid hb
    simp only [Ty.size] at hsz
    have IL : Hid (∀ n, Calls Tryd.prog 87 #[Ptr pl] (w.drewN n) fun e w' => e = .returned (S l.text) ∧ ∃ m, w' = w.drewN m) := fun n => Calls.quiet_of (ihl hlt.1 (by omega) _ pl (hP.drewN n) hl)
    have IR : Hid (∀ n, Calls Tryd.prog 87 #[Ptr pr] (w.drewN n) fun e w' => e = .returned (S r.text) ∧ ∃ m, w' = w.drewN m) := fun n => Calls.quiet_of (ihr hlt.2 (by omega) _ pr (hP.drewN n) hr)
    have ll := Ty.length_text l
    have lr := Ty.length_text r
    clear ihl ihr hb
    go_enter Tryd.func87, Tryd.ntmps87
    go_wp2_with fail
    refine (compound_yes _ _ _ _ _ _ _ _ HB.out).mono ?_
    rintro e w' ⟨rfl, rfl⟩
    go_wp2_with fail
    go_quiet ((first | (go_at_call 87; with_reducible exact IL.out _) | (go_at_call 87; with_reducible exact IR.out _)))
    go_wp2
    go_ret
    exact ⟨ret_str (by simp [Ty.text]), _, rfl⟩
end Go.Proofs.YtjgbihcnfhbalaaDoor
