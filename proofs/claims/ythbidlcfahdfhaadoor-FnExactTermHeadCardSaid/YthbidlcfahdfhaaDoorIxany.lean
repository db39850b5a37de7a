import Derived.Test.YthbidlcfahdfhaaDoorIxr
import Derived.Test.YthbidlcfahdfhaaDoorTerm
import Derived.Lib.TrimU
namespace Go.Proofs.YthbidlcfahdfhaaDoor
open Go.RowKit Go.ChangeMaps

theorem run_next_rune {P : Program} (w : World) (s : ByteArray) (pos : Nat) (ty : TypeId) (h : pos < s.size) (r k : Nat) (hd : Utf8.decode s pos = (r, k)) :
    (Instr.next (.pointer (some ⟨w.heap.size, 0, none⟩)) true ty).run P (w.iter s pos) = .ok (.tuple #[.bool true, .int .i64 pos, .int .i32 r]) (w.iter s (pos + k)) := by
  simp only [Instr.next, getObj, setObj, Sem.run_bind, Sem.run, World.iter_heap, Result.andThen, h, if_true, hd, World.iter_set]
  simp [goInt]

theorem get_bang (u : List UInt8) (i : Nat) : (ByteArray.mk u.toArray).get! i = u.getD i 0 := by
  unfold ByteArray.get!
  simp [List.getD_eq_getElem?_getD]
  rcases h : u[i]? with _ | x
  · simp; rfl
  · simp

theorem decodeN_high (n b0 b1 b2 b3 : Nat) (h : 128 ≤ b0) (h0 : b0 < 256) (hn : 1 ≤ n) : ∃ r k, Lib.decodeN n b0 b1 b2 b3 = (r, k) ∧ 128 ≤ r ∧ r ≤ 1114111 ∧ 1 ≤ k ∧ k ≤ n ∧ (2 ≤ k → b1 / 64 = 2) ∧ (3 ≤ k → b2 / 64 = 2) ∧ (4 ≤ k → b3 / 64 = 2) ∧ k ≤ 4 := by
  refine ⟨(Lib.decodeN n b0 b1 b2 b3).1, (Lib.decodeN n b0 b1 b2 b3).2, rfl, ?_⟩
  have hc : ¬ b0 < 128 := by omega
  unfold Lib.decodeN
  rw [if_neg hc]
  split
  · split
    · refine ⟨?_, ?_, ?_, ?_, ?_, ?_, ?_, ?_⟩ <;> (try omega) <;> (intro h2; omega)
    · refine ⟨?_, ?_, ?_, ?_, ?_, ?_, ?_, ?_⟩ <;> (try omega) <;> (intro h2; omega)
  · split
    · split
      · refine ⟨?_, ?_, ?_, ?_, ?_, ?_, ?_, ?_⟩ <;> (try omega) <;> (intro h2; omega)
      · refine ⟨?_, ?_, ?_, ?_, ?_, ?_, ?_, ?_⟩ <;> (try omega) <;> (intro h2; omega)
    · split
      · split
        · refine ⟨?_, ?_, ?_, ?_, ?_, ?_, ?_, ?_⟩ <;> (try omega) <;> (intro h2; omega)
        · refine ⟨?_, ?_, ?_, ?_, ?_, ?_, ?_, ?_⟩ <;> (try omega) <;> (intro h2; omega)
      · refine ⟨?_, ?_, ?_, ?_, ?_, ?_, ?_, ?_⟩ <;> (try omega) <;> (intro h2; omega)

/-- no separator among the first -/
def NoSep (u : List UInt8) (i : Nat) : Prop := ∀ (j : Nat) (x : UInt8), j < i → u[j]? = some x → isSep x = false

theorem NoSep.zero (u : List UInt8) : NoSep u 0 := fun j x h => by omega

theorem sep_low {x : UInt8} (h : 128 ≤ x.toNat) : isSep x = false := by
  unfold isSep
  simp only [Bool.or_eq_false_iff, beq_eq_false_iff_ne]
  refine ⟨⟨?_, ?_⟩, ?_⟩ <;> (rintro rfl; revert h; decide)

theorem NoSep.high {u : List UInt8} {i : Nat} (h : NoSep u i) {x : UInt8} (hx : u[i]? = some x) (h128 : 128 ≤ x.toNat) :
    ∃ r k, Utf8.decode ⟨u.toArray⟩ i = (r, k) ∧ 128 ≤ r ∧ r ≤ 1114111 ∧ 1 ≤ k ∧ i + k ≤ u.length ∧ NoSep u (i + k) := by
  have hl := (List.getElem?_eq_some_iff.1 hx).1
  have hsz : (ByteArray.mk u.toArray).size = u.length := rfl
  have e0 : (ByteArray.mk u.toArray).get! i = x := by rw [get_bang, List.getD_eq_getElem?_getD, hx]; rfl
  obtain ⟨r, k, hd, h1, h2, h3, h4, h5, h6, h7, h8⟩ := decodeN_high (u.length - i) x.toNat ((ByteArray.mk u.toArray).get! (i + 1)).toNat ((ByteArray.mk u.toArray).get! (i + 2)).toNat ((ByteArray.mk u.toArray).get! (i + 3)).toNat h128 x.toNat_lt (by omega)
  refine ⟨r, k, by rw [Lib.decode_at, hsz, e0]; exact hd, h1, h2, h3, by omega, ?_⟩
  intro j y hj hy
  rcases Nat.lt_or_ge j i with hji | hji
  · exact h j y hji hy
  · have hg : ∀ m, j = i + m → ((ByteArray.mk u.toArray).get! (i + m)).toNat = y.toNat := by
      intro m e
      rw [get_bang, List.getD_eq_getElem?_getD, ← e, hy]; rfl
    apply sep_low
    have : j = i ∨ j = i + 1 ∨ j = i + 2 ∨ j = i + 3 := by omega
    rcases this with e | e | e | e
    · rw [e, hx] at hy; injection hy with hy; rw [← hy]; exact h128
    · have g := hg 1 e; rw [g] at h5; have := h5 (by omega); omega
    · have g := hg 2 e; rw [g] at h6; have := h6 (by omega); omega
    · have g := hg 3 e; rw [g] at h7; have := h7 (by omega); omega

theorem NoSep.succ {u : List UInt8} {i : Nat} (h : NoSep u i) {x : UInt8} (hx : u[i]? = some x) (hs : isSep x = false) : NoSep u (i + 1) := by
  intro j y hj hy
  rcases Nat.lt_or_ge j i with hji | hji
  · exact h j y hji hy
  · have : j = i := by omega
    subst this
    rw [hx] at hy; injection hy with hy; rw [← hy]; exact hs

theorem NoSep.take {u : List UInt8} {i : Nat} (h : NoSep u i) : (u.take i).all (fun c => !isSep c) = true := by
  rw [List.all_eq_true]
  intro x hx
  obtain ⟨j, hj⟩ := List.getElem?_of_mem hx
  rw [List.getElem?_take] at hj
  split at hj
  · rename_i hlt; simp [h j x hlt hj]
  · cases hj

/-- where the word ends -/
def WordAt (u : List UInt8) (r : Int) : Prop := (r = -1 ∧ wordOf u = u ∧ behind u = []) ∨ (0 ≤ r ∧ r ≤ u.length ∧ wordOf u = u.take r.toNat ∧ behind u = u.drop r.toNat)

theorem WordAt.none {u : List UInt8} (h : NoSep u u.length) : WordAt u (-1) := by
  have h1 := h.take
  rw [List.take_length] at h1
  have := word_of (r := []) h1 (fun x y e => by cases e)
  rw [List.append_nil] at this
  exact .inl ⟨rfl, this⟩

theorem WordAt.some {u : List UInt8} {i : Nat} {x : UInt8} (h : NoSep u i) (hx : u[i]? = some x) (hs : isSep x = true) : WordAt u i := by
  obtain ⟨hl, e⟩ := List.getElem?_eq_some_iff.1 hx
  have hst : Stop (u.drop i) := by
    intro a b ed
    rw [List.drop_eq_getElem_cons hl, e] at ed
    injection ed with ed _
    rw [← ed]; exact hs
  have := word_of h.take hst
  rw [List.take_append_drop] at this
  exact .inr ⟨by omega, by omega, by simpa using this⟩

def sepL : List UInt8 := [32, 40, 41]

theorem sep_contains (x : UInt8) : sepL.contains x = isSep x := by
  unfold sepL isSep
  simp
  cases h1 : x == 32 <;> cases h2 : x == 40 <;> cases h3 : x == 41 <;> simp <;> simp_all

def AnyPost (u : List UInt8) (w : World) (e : Ending) (w' : World) : Prop := ∃ r : Int, e = .returned (.int .i64 r) ∧ WordAt u r ∧ Fr No w w'
end Go.Proofs.YthbidlcfahdfhaaDoor
