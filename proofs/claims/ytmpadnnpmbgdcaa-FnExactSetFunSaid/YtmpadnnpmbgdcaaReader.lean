import Derived.Test.YtmpadnnpmbgdcaaPoolw
import Derived.Test.YtmpadnnpmbgdcaaShelf
namespace Go.Proofs.Ytmpadnnpmbgdcaa
open Go.RowKit Go.ChangeMaps

/-! Letters, as strings.IndexByte finds them. -/
def letters : List UInt8 := [97, 98, 99, 100, 101, 102, 103, 104, 105, 106, 107, 108, 109, 110, 112, 113, 114, 115, 116, 117, 118, 119, 120, 121, 122]

theorem ix_all : ∀ c : Fin 256, (((List.range 25).any (fun i => (Ty.letter i == UInt8.ofNat c.val) && (Lib.indexByte letters (UInt8.ofNat c.val) == (i : Int)))) || (((List.range 25).all (fun i => Ty.letter i != UInt8.ofNat c.val)) && (Lib.indexByte letters (UInt8.ofNat c.val) == -1))) = true := by
  decide +kernel

theorem ix_cases (c : UInt8) : (∃ i, i < 25 ∧ c = Ty.letter i ∧ Lib.indexByte letters c = (i : Int)) ∨ ((∀ i, i < 25 → c ≠ Ty.letter i) ∧ Lib.indexByte letters c = -1) := by
  have h := ix_all ⟨c.toNat, c.toNat_lt⟩
  simp only [UInt8.ofNat_toNat, Bool.or_eq_true, Bool.and_eq_true, List.any_eq_true, List.all_eq_true, List.mem_range, beq_iff_eq, bne_iff_ne] at h
  rcases h with ⟨i, hi, h1, h2⟩ | ⟨h1, h2⟩
  · exact .inl ⟨i, hi, h1.symm, h2⟩
  · exact .inr ⟨fun i hi e => h1 i hi e.symm, h2⟩

/-! The reader. -/
def Rdr (w : World) (R q : Nat) (u : List UInt8) (sh k : Nat) : Prop := Blk w R 96 #[S u, .int .i64 k, Ptr q, .int .i64 sh]

def Two (m R : Nat) : Nat → Prop := fun k => k = m ∨ k = R

theorem Rdr.apart {w : World} {R q m : Nat} {u : List UInt8} {sh k : Nat} {ps : List Nat} {D : List Ty} (h : Rdr w R q u sh k) (hp : Pool w q m ps D) : R ≠ q ∧ R ≠ m ∧ R ∉ ps := by
  refine ⟨?_, ?_, ?_⟩
  · rintro rfl
    have := (Blk.eq h hp.head).1
    simp at this
  · obtain ⟨f, ⟨es, clk, hb, _⟩, _⟩ := hp.map
    exact h.ne_map hb
  · intro hR
    obtain ⟨i, hi⟩ := List.getElem?_of_mem hR
    have hl := (List.getElem?_eq_some_iff.1 hi).1
    obtain ⟨x, y, hb, _⟩ := hp.node i (D[i]'(by rw [← hp.len]; exact hl)) R (List.getElem?_eq_getElem _) hi
    have := (Blk.eq h hb).1
    simp at this

theorem Pool.setR {w : World} {R q m : Nat} {u : List UInt8} {sh k : Nat} {ps : List Nat} {D : List Ty} (h : Rdr w R q u sh k) (hp : Pool w q m ps D) (i : Nat) (v : Value) : Pool (w.setCell ⟨R, i, none⟩ v) q m ps D := by
  obtain ⟨h1, h2, h3⟩ := h.apart hp
  exact hp.fr (S := One R) ((Fr.refl (One R) w).setCell (p := ⟨R, i, none⟩) (.inl rfl) v) (fun e => h1 e.symm) (fun e => h2 e.symm) (fun p hp e => h3 (e ▸ hp))

set_option maxHeartbeats 400000 in
theorem skip_any (w : World) (R q : Nat) (u p u2 : List UInt8) (sh k : Nat) (b : Bool) (h : Rdr w R q u sh k) (hb : Lib.hasPrefix u p = b) (hu : Lib.trimPrefix u p = u2) :
    Calls Try.prog 80 #[Ptr R, S p] w fun e w' => e = .returned (.bool b) ∧ w.setCell ⟨R, 0, none⟩ (S u2) = w' := by
  have c1 : w.cell? ⟨R, 0, none⟩ = some (S u) := (h.cell 0).trans rfl
  have f1 : w.frozen? ⟨R, 0, none⟩ = false := h.frozen 0
  have HB := Lib.hid hb
  have HU := Lib.hid hu
  clear hb hu
  go_enter Try.func80, Try.ntmps80
  go_wp2_with fail
  refine (Try.strings_CutPrefix _ _ _).mono ?_
  rintro e w' ⟨rfl, rfl⟩
  simp only [HB.out, HU.out]
  go_wp2
  go_ret
  exact ⟨rfl, rfl⟩
end Go.Proofs.Ytmpadnnpmbgdcaa
