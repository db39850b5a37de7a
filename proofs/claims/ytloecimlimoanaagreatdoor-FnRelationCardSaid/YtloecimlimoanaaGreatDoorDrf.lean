/- The draws of an interface, two sizes and two modules. -/
import Derived.Test.YtloecimlimoanaaGreatDoorDro
namespace Go.Proofs.YtloecimlimoanaaGreatDoor
open Go.RowKit Go.ChangeMaps Go.Shelf

set_option maxRecDepth 100000 in
set_option maxHeartbeats 1000000 in
theorem face_draw (w : World) (r : Nat) (A : Option Addr) (n c p : Nat) (h : Rdc w r A n c p) (hp : p ≤ 80000) :
    Calls Tryz.prog 32 #[Ptr r] w fun e w' => DrwP r A n c p 3 40 w e w' := by
  have KD := Lib.hid (kind_draw w r A n c p h hp)
  clear h
  go_enter Tryz.func32, Tryz.ntmps32
  go_wp2_with fail
  refine KD.out.mono ?_
  rintro e w1 ⟨x, p1, rfl, hx, hf1, hp1, hr1⟩
  have HF1 := Lib.hid hf1
  have OF := Lib.hid (of_lit w1 r A n c p1 40 8 [[97], [40, 42, 32, 97, 32, 40, 62, 32, 97, 32, 111, 41, 41], [40, 42, 32, 97, 32, 40, 42, 32, 40, 62, 32, 97, 32, 97, 41, 32, 40, 62, 32, 97, 32, 111, 41, 41, 41], [40, 42, 32, 97, 32, 40, 62, 32, 97, 32, 97, 41, 41], [40, 62, 32, 97, 32, 111, 41], [40, 42, 32, 40, 62, 32, 111, 32, 97, 41, 32, 40, 62, 32, 97, 32, 111, 41, 41], [111], x] #[.string ⟨#[97]⟩, .string ⟨#[40, 42, 32, 97, 32, 40, 62, 32, 97, 32, 111, 41, 41]⟩, .string ⟨#[40, 42, 32, 97, 32, 40, 42, 32, 40, 62, 32, 97, 32, 97, 41, 32, 40, 62, 32, 97, 32, 111, 41, 41, 41]⟩, .string ⟨#[40, 42, 32, 97, 32, 40, 62, 32, 97, 32, 97, 41, 41]⟩, .string ⟨#[40, 62, 32, 97, 32, 111, 41]⟩, .string ⟨#[40, 42, 32, 40, 62, 32, 111, 32, 97, 41, 32, 40, 62, 32, 97, 32, 111, 41, 41]⟩, .string ⟨#[111]⟩, S x] rfl rfl hr1 (by omega) (by omega) (by omega) (by
    intro y hy
    simp at hy
    rcases hy with rfl | rfl | rfl | rfl | rfl | rfl | rfl | rfl <;> first | exact hx | decide))
  clear hf1 hr1 KD
  go_wp2_with fail
  refine OF.out.mono ?_
  rintro e w2 ⟨y, rfl, _, hy, hf, hr⟩
  have FIN : Hid (DrwP r A n c p 3 40 w (.returned (S y)) w2) := ⟨y, p1 + 1, rfl, hy, HF1.out.trans hf, by omega, hr⟩
  clear hf hr
  go_wp2_with fail
  go_ret
  exact FIN.out

/-- an interface, two sizes, two modules -/
def DrMd (w : World) (e : Ending) (w' : World) : Prop := ∃ (s : List UInt8) (m n x y : Int), e = .returned (.tuple #[S s, .int .i64 m, .int .i64 n, .int .i64 x, .int .i64 y]) ∧ s.length ≤ 40 ∧ (0 ≤ m ∧ m ≤ 4) ∧ (0 ≤ n ∧ n ≤ 4) ∧ Fr No w w'

set_option maxRecDepth 100000 in
set_option maxHeartbeats 2000000 in
theorem mods_draw (w : World) (r : Nat) (A : Option Addr) (n c p : Nat) (h : Rdc w r A n c p) (hp : p ≤ 70000) :
    Calls Tryz.prog 17 #[Ptr r] w fun e w' => ∃ (s : List UInt8) (m n' x y : Int), e = .returned (.tuple #[S s, .int .i64 m, .int .i64 n', .int .i64 x, .int .i64 y]) ∧ s.length ≤ 40 ∧ (0 ≤ m ∧ m ≤ 4) ∧ (0 ≤ n' ∧ n' ≤ 4) ∧ Fr (One r) w w' := by
  have KD := Lib.hid (face_draw w r A n c p h (by omega))
  clear h
  go_enter Tryz.func17, Tryz.ntmps17
  go_wp2_with fail
  refine KD.out.mono ?_
  rintro e w2 ⟨s, p2, rfl, hs, hf2, hp2, hd2⟩
  have HF2 := Lib.hid hf2
  have SD := Lib.hid (size_draw w2 r A n c p2 hd2 (by omega))
  clear hf2 hd2 KD
  go_wp2_with fail
  refine SD.out.mono ?_
  rintro e w3 ⟨m, p3, rfl, hm0, hm4, hf3, hp3, hd3⟩
  have HF3 := Lib.hid (HF2.out.trans hf3)
  have SD2 := Lib.hid (size_draw w3 r A n c p3 hd3 (by omega))
  clear hf3 hd3 SD
  go_wp2_with fail
  refine SD2.out.mono ?_
  rintro e w4 ⟨k, p4, rfl, hk0, hk4, hf4, hp4, hd4⟩
  have HF4 := Lib.hid (HF3.out.trans hf4)
  have OF := Lib.hid (of_draw w4 r A n c p4 hd4 (by omega) s (by unfold maxLen; omega) m)
  clear hf4 hd4 SD2
  go_wp2_with fail
  refine OF.out.mono ?_
  rintro e w5 ⟨x, p5, rfl, _, _, hf5, hp5, hd5⟩
  have HF5 := Lib.hid (HF4.out.trans hf5)
  have OF2 := Lib.hid (of_draw w5 r A n c p5 hd5 (by omega) s (by unfold maxLen; omega) k)
  clear hf5 hd5 OF
  go_wp2_with fail
  refine OF2.out.mono ?_
  rintro e w6 ⟨y, p6, rfl, _, _, hf6, _, _⟩
  have HF6 := Lib.hid (HF5.out.trans hf6)
  clear hf6 OF2
  go_wp2_with fail
  refine bodyPost_ret (v := .tuple #[S s, .int .i64 m, .int .i64 k, .int .i64 x, .int .i64 y]) (by simp [results, Tryz.results17, go_sem]) rfl ?_
  exact ⟨s, m, k, x, y, rfl, hs, ⟨hm0, hm4⟩, ⟨hk0, hk4⟩, HF6.out⟩
end Go.Proofs.YtloecimlimoanaaGreatDoor
