import Derived.Test.YthbidlcfahdfhaaDoorIxany
namespace Go.Proofs.YthbidlcfahdfhaaDoor
open Go.RowKit Go.ChangeMaps

theorem sep_first (u : List UInt8) : NoSep u u.length ∨ ∃ i x, NoSep u i ∧ u[i]? = some x ∧ isSep x = true := by
  have hu := word_behind u
  have hno : NoSep u (wordOf u).length := by
    intro j x hj hx
    rw [hu, List.getElem?_append_left hj] at hx
    have := List.mem_of_getElem? hx
    have h2 : ∀ y ∈ u.takeWhile (fun c => !isSep c), (!isSep y) = true := fun y hy => by
      have := List.all_eq_true.1 (List.all_takeWhile (l := u) (p := fun c => !isSep c)) y hy
      exact this
    have := h2 x this
    simpa using this
  rcases hb : behind u with _ | ⟨x, r⟩
  · left
    rw [hb, List.append_nil] at hu
    rw [← hu] at hno
    exact hno
  · right
    refine ⟨(wordOf u).length, x, hno, ?_, stop_behind u x r hb⟩
    have h1 : (wordOf u ++ behind u)[(wordOf u).length]? = some x := by
      rw [List.getElem?_append_right (Nat.le_refl _), hb]
      simp
    rwa [← hu] at h1

theorem NoSep.any {u : List UInt8} {i : Nat} (h : NoSep u i) : Lib.NoAny u sepL i := fun j b hj hb => by rw [sep_contains]; exact h j b hj hb

theorem wordAt_index (u : List UInt8) : WordAt u (Lib.indexAny u sepL) := by
  rcases sep_first u with h | ⟨i, x, h, hx, hs⟩
  · rw [Lib.indexAny_none h.any]; exact .none h
  · rw [Lib.indexAny_hit h.any hx (by rw [sep_contains]; exact hs)]; exact .some h hx hs

theorem any_long (u : List UInt8) (w : World) (h8 : 8 < u.length) (hu : u.length ≤ 100000) :
    Calls Tryd.prog 89 #[S u, sepS] w fun e w' => AnyPost u w e w' := by
  have h := Tryd.strings_IndexAny_long (fun w => by kernel_rfl) ⟨u.toArray⟩ ⟨#[32, 40, 41]⟩ w (by decide) (by show 8 < u.length; exact h8) (by show u.length < _; omega) (by decide) (by
    intro j b hb
    have : b ∈ sepL := List.mem_of_getElem? hb
    simp [sepL] at this
    rcases this with rfl | rfl | rfl <;> decide)
  refine h.mono ?_
  rintro e w' ⟨rfl, rfl⟩
  exact ⟨_, rfl, wordAt_index u, ((Fr.refl _ _).alloc _).alloc _⟩

/-- an iterator over a text -/
def It (w : World) (b : Nat) (s : ByteArray) (pos : Nat) : Prop := w.heap[b]? = some (.stringIter s pos)

theorem It.lt {w : World} {b : Nat} {s : ByteArray} {pos : Nat} (h : It w b s pos) : b < w.heap.size := by
  rcases Nat.lt_or_ge b w.heap.size with hlt | hge
  · exact hlt
  · unfold It at h; rw [Array.getElem?_eq_none hge] at h; cases h

theorem It.set_ {w : World} {b : Nat} {s : ByteArray} {pos : Nat} (h : It w b s pos) (p' : Nat) : It (setBlock w b (.stringIter s p')) b s p' ∧ Fr (One b) w (setBlock w b (.stringIter s p')) := by
  have hl := h.lt
  refine ⟨?_, rfl, rfl, rfl, by simp [setBlock], fun k hk hs => ?_⟩
  · unfold It setBlock; simp [hl]
  · unfold One at hs
    simp only [setBlock]
    rw [Array.getElem?_setIfInBounds]
    simp [Ne.symm hs]

theorem It.next {P : Program} {w : World} {b : Nat} {s : ByteArray} {pos : Nat} (hb : It w b s pos) (ty : TypeId) (h : pos < s.size) (r k : Nat) (hd : Utf8.decode s pos = (r, k)) :
    (Instr.next (.pointer (some ⟨b, 0, none⟩)) true ty).run P w = .ok (.tuple #[.bool true, .int .i64 pos, .int .i32 r]) (setBlock w b (.stringIter s (pos + k))) := by
  unfold It at hb
  simp only [Instr.next, getObj, setObj, Sem.run_bind, Sem.run, hb, Result.andThen, h, if_true, hd]
  simp [goInt, setBlock]

theorem It.end_ {P : Program} {w : World} {b : Nat} {s : ByteArray} {pos : Nat} (hb : It w b s pos) (ty : TypeId) (h : ¬ pos < s.size) :
    (Instr.next (.pointer (some ⟨b, 0, none⟩)) true ty).run P w = .ok (.tuple #[.bool false]) w := by
  unfold It at hb
  simp [Instr.next, getObj, Sem.run, hb, h]

theorem ixr_ascii (x : UInt8) (w : World) (hx : x.toNat < 128) (b : Bool) (hb : isSep x = b) :
    Calls Tryd.prog 101 #[sepS, .int .i32 x.toNat] w fun e w' => ∃ r : Int, e = .returned (.int .i64 r) ∧ (decide (0 ≤ r) = b) ∧ Fr No w w' := by
  refine (Tryd.strings_IndexRune_ascii ⟨#[32, 40, 41]⟩ x.toNat w (by omega) (by omega)).mono ?_
  rintro e w' ⟨rfl, rfl⟩
  have hback : ((x.toNat : Int)).toNat.toUInt8 = x := by simp
  refine ⟨_, rfl, ?_, Fr.refl _ _⟩
  rw [hback]
  have := Lib.contains_iff_indexByte sepL x
  rw [sep_contains, hb] at this
  exact this.symm

set_option maxRecDepth 100000 in
set_option maxHeartbeats 2000000 in
theorem any_short (u : List UInt8) (w : World) (h8 : u.length ≤ 8) :
    Calls Tryd.prog 89 #[S u, sepS] w fun e w' => AnyPost u w e w' := by
  have h8z : decide ((8 : Int) < (u.length : Int)) = false := decide_eq_false (by omega)
  have hI : It (w.iter ⟨u.toArray⟩ 0) w.heap.size ⟨u.toArray⟩ 0 := World.iter_heap _ _ _
  have hf0 : Fr No w (w.iter ⟨u.toArray⟩ 0) := (Fr.refl _ _).alloc _
  have HI := Lib.hid hI
  clear hI
  go_enter Tryd.func89, Tryd.ntmps89
  go_wp2_with fail
  refine (Tryd.strings_shouldUseASCIISet _ _).mono ?_
  rintro e w' ⟨rfl, rfl⟩
  rw [h8z]
  go_wp2_with fail
  generalize w'.iter ⟨u.toArray⟩ 0 = w1 at HI hf0 ⊢
  go_loopg [9, 10] u.length (fun g _ _ wx => ∃ (i : Nat), i + g = u.length ∧ It wx w'.heap.size ⟨u.toArray⟩ i ∧ Fr No w' wx ∧ NoSep u i)
  case atStart => exact ⟨0, by omega, HI.out, hf0, NoSep.zero _⟩
  case round =>
    obtain ⟨i, hig, hit, hfr, hno⟩ := hrel
    have HN := Lib.hid hno
    have HT := Lib.hid hit
    clear hno hit
    by_cases hlt : i < u.length
    · obtain ⟨x, hx⟩ : ∃ x, u[i]? = some x := ⟨_, List.getElem?_eq_getElem hlt⟩
      have HX := Lib.hid hx
      clear hx
      by_cases h128 : x.toNat < 128
      · have hd : Utf8.decode ⟨u.toArray⟩ i = (x.toNat, 1) := by
          obtain ⟨hl, e⟩ := List.getElem?_eq_some_iff.1 HX.out
          have e2 : ((ByteArray.mk u.toArray)[i]'hl) = x := by rw [← e]; rfl
          rw [decode_ascii ⟨u.toArray⟩ i hl (by rw [e2]; exact h128), e2]
        have hnx := fun ty => HT.out.next (P := Tryd.prog) ty hlt _ _ hd
        obtain ⟨hit', hfs⟩ := HT.out.set_ (i + 1)
        have HT' := Lib.hid hit'
        have HF' := Lib.hid (hfr.then_ hfs (fun j hj e => by unfold One at e; omega))
        clear hit' hfs hd
        generalize setBlock wr w'.heap.size (.stringIter ⟨u.toArray⟩ (i + 1)) = w2 at hnx HT' HF'
        rcases hs : isSep x with _ | _
        · have HS := Lib.hid hs
          clear hs
          go_wp2_with fail
          refine (ixr_ascii x w2 h128 false HS.out).mono ?_
          rintro e w3 ⟨r, rfl, hr, hf3⟩
          have HT3 : Hid (It w3 w'.heap.size ⟨u.toArray⟩ (i + 1)) := (hf3.block _ HT'.out.lt (fun h => h)).trans HT'.out
          have HF3 := Lib.hid (HF'.out.trans hf3)
          clear hf3
          go_wp2_with fail
          go_roundg (u.length - (i + 1))
          case measure => omega
          case rel => exact ⟨i + 1, by omega, HT3.out, HF3.out, HN.out.succ HX.out HS.out⟩
        · have HS := Lib.hid hs
          clear hs
          go_wp2_with fail
          refine (ixr_ascii x w2 h128 true HS.out).mono ?_
          rintro e w3 ⟨r, rfl, hr, hf3⟩
          have HF3 := Lib.hid (HF'.out.trans hf3)
          clear hf3
          go_wp2_with fail
          go_ret
          exact ⟨_, rfl, WordAt.some HN.out HX.out HS.out, HF3.out⟩
      · obtain ⟨r, k, hd, h1, h2, h3, h4, h5⟩ := HN.out.high HX.out (by omega)
        have hnx := fun ty => HT.out.next (P := Tryd.prog) ty hlt _ _ hd
        obtain ⟨hit', hfs⟩ := HT.out.set_ (i + k)
        have HT' := Lib.hid hit'
        have HF' := Lib.hid (hfr.then_ hfs (fun j hj e => by unfold One at e; omega))
        have H5 := Lib.hid h5
        clear hit' hfs hd h5
        generalize setBlock wr w'.heap.size (.stringIter ⟨u.toArray⟩ (i + k)) = w2 at hnx HT' HF'
        go_wp2_with fail
        refine (ixr_high (r : Int) w2 (by omega) (by omega)).mono ?_
        rintro e w3 ⟨rfl, hf3⟩
        have HT3 : Hid (It w3 w'.heap.size ⟨u.toArray⟩ (i + k)) := (hf3.block _ HT'.out.lt (fun h => h)).trans HT'.out
        have HF3 := Lib.hid (HF'.out.trans hf3)
        clear hf3
        go_wp2_with fail
        go_roundg (u.length - (i + k))
        case measure => omega
        case rel => exact ⟨i + k, by omega, HT3.out, HF3.out, H5.out⟩
    · have hge : ¬ i < (ByteArray.mk u.toArray).size := hlt
      have hnx := fun ty => HT.out.end_ (P := Tryd.prog) ty hge
      have hiu : i = u.length := by omega
      have HN' : Hid (NoSep u u.length) := by
        have := HN.out
        rw [hiu] at this
        exact this
      clear hiu
      go_wp2_with fail
      go_ret
      exact ⟨-1, rfl, WordAt.none HN'.out, hfr⟩

theorem idx_any (u : List UInt8) (w : World) (hu : u.length ≤ 100000) : Calls Tryd.prog 89 #[S u, sepS] w fun e w' => AnyPost u w e w' := by
  rcases Nat.lt_or_ge 8 u.length with h | h
  · exact any_long u w h hu
  · exact any_short u w h
end Go.Proofs.YthbidlcfahdfhaaDoor
