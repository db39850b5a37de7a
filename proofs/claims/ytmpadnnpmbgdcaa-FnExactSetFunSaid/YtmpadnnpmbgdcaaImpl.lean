import Derived.Test.YtmpadnnpmbgdcaaRead
import Derived.Carry
namespace Go.Proofs.Ytmpadnnpmbgdcaa
open Go.RowKit Go.ChangeMaps

def ReadPost (w : World) (q m : Nat) (ps : List Nat) (D : List Ty) (s : List UInt8) (sh : Nat) (e : Ending) (w' : World) : Prop :=
  ∃ ps' D', Pool w' q m ps' D' ∧ Grew w.heap.size ps D ps' D' ∧ Fr (One m) w w' ∧
    ((∃ t p, Ty.Is s t ∧ Has ps' D' (t.shift sh) p ∧ e = .returned (Ptr p)) ∨ ((∀ t, ¬ Ty.Is s t) ∧ e = .returned (.pointer none)))

theorem Ty.Is.rd {s : List UInt8} {t : Ty} (h : Ty.Is s t) : Ty.Rd s 0 t [] := ⟨by simpa using h.1, h.2.1, by simpa using h.2.2⟩
theorem Ty.Rd.is {s : List UInt8} {t : Ty} (h : Ty.Rd s 0 t []) : Ty.Is s t := ⟨by simpa using h.1, h.2.1, by simpa using h.2.2⟩
theorem Ty.Is.short {s : List UInt8} {t : Ty} (h : Ty.Is s t) : s.length ≤ 240 := by
  have := Ty.length_text t
  rw [h.1]; have := h.2.2; omega

theorem two_one {w w' : World} {m : Nat} {o : Obj} (h : Fr (Two m w.heap.size) (w.alloc o) w') : Fr (One m) w w' :=
  ((Fr.refl (One m) w).alloc o).then_ h (fun i hi ht => by rcases ht with rfl | rfl; exact rfl; omega)

set_option maxHeartbeats 1000000 in
theorem read_any (w : World) (q m : Nat) (ps : List Nat) (D : List Ty) (s : List UInt8) (sh : Nat) (hP : Pool w q m ps D) (hsh : sh ≤ 100) (hs : s.length ≤ maxLen) :
    Calls Try.prog 39 #[Ptr q, S s, .int .i64 sh] w fun e w' => ReadPost w q m ps D s sh e w' := by
  unfold maxLen at hs
  have hbig : 6000 < s.length → ∀ t, ¬ Ty.Is s t := fun h t ht => by have := ht.short; omega
  have HB := Lib.hid hbig
  clear hbig
  by_cases hl : 6000 < s.length
  · have hb : decide ((6000 : Int) < (s.length : Int)) = true := by simp; omega
    go_enter Try.func39, Try.ntmps39
    go_wp2_with fail
    go_ret
    exact ⟨ps, D, hP, Grew.refl _ _ _, Fr.refl _ _, .inr ⟨HB.out hl, rfl⟩⟩
  · have hb : decide ((6000 : Int) < (s.length : Int)) = false := by simp; omega
    have hP0 : Pool (w.alloc (.cells #[S s, .int .i64 0, Ptr q, .int .i64 sh] 96)) q m ps D :=
      hP.fr ((Fr.refl No w).alloc _) (fun h => h) (fun h => h) (fun _ _ h => h)
    have hR0 : Rdr (w.alloc (.cells #[S s, .int .i64 0, Ptr q, .int .i64 sh] 96)) w.heap.size q s sh 0 := Blk.new _ _ _
    have hml : m < w.heap.size := by obtain ⟨f, h, _⟩ := hP.map; exact h.lt
    go_enter Try.func39, Try.ntmps39
    go_wp2_with fail
    refine (next_any 41 0 (by omega) (by omega) _ w.heap.size q m ps D s sh hP0 hR0 (by omega) hsh).mono ?_
    rintro e w1 ⟨ps1, D1, u1, k1, hL, hor⟩
    have c1 := (rdr_cells hL.rdr).2.1
    have hg : Grew w.heap.size ps D ps1 D1 := hL.grew.mono (by simp)
    have hf : Fr (One m) w w1 := two_one hL.fr
    have hp := hL.pool
    clear hL hP0 hR0
    by_cases hu : u1 = []
    · subst hu
      rcases hor with ⟨t, p, hrd, _, hhas, he⟩ | ⟨hno, he⟩
      · obtain rfl := he
        go_wp2
        go_ret
        exact ⟨ps1, D1, hp, hg, hf, .inl ⟨t, p, hrd.is, hhas, rfl⟩⟩
      · obtain rfl := he
        go_wp2
        go_ret
        exact ⟨ps1, D1, hp, hg, hf, .inr ⟨fun t ht => hno t [] ht.rd, rfl⟩⟩
    · have hs1 : u1.isEmpty = false := by cases u1; exact absurd rfl hu; rfl
      have hfin : ∀ t, ¬ Ty.Is s t := by
        intro t ht
        rcases hor with ⟨t', p, hrd, _, _, _⟩ | ⟨hno, _⟩
        · exact hu (hrd.unique ht.rd).2
        · exact hno t [] ht.rd
      have HF := Lib.hid hfin
      have hret : ∃ v, e = .returned v := by rcases hor with ⟨t', p, _, _, _, he⟩ | ⟨_, he⟩ <;> exact ⟨_, he⟩
      clear hor hfin
      obtain ⟨v, rfl⟩ := hret
      go_wp2
      go_ret
      exact ⟨ps1, D1, hp, hg, hf, .inr ⟨HF.out, rfl⟩⟩

theorem pool_start (w : World) : Pool ((w.alloc (.map #[] 0)).alloc (.cells #[.map (some w.heap.size)] 91)) (w.heap.size + 1) w.heap.size [] [] where
  head := Blk.new_at _ _ _ (by simp)
  len := rfl
  nodup := List.nodup_nil
  node i t p h := by simp at h
  map := ⟨fun _ => none, (MapAt.made w encK).keep (Below.heap_alloc _ _ _ (by simp)), fun i t p k h => by simp at h, fun k v h => by cases h⟩

set_option maxHeartbeats 400000 in
theorem newPool_any (w : World) :
    Calls Try.prog 38 #[] w fun e w' => e = .returned (Ptr (w.heap.size + 1)) ∧
      (w.alloc (.map #[] 0)).alloc (.cells #[.map (some w.heap.size)] 91) = w' := by
  have hmm := @run_makeMap Try.prog
  go_enter Try.func38, Try.ntmps38
  go_wp2
  go_ret
  exact ⟨rfl, rfl⟩

/-- A function that answers a bool: whether P; of old memory nothing has turned. -/
def AnsB (P : Prop) (w : World) (e : Ending) (w' : World) : Prop := ∃ b : Bool, e = .returned (.bool b) ∧ (b = true ↔ P) ∧ Fr No w w'

def AnsSize (s : List UInt8) (w : World) (e : Ending) (w' : World) : Prop := ∃ n : Int, e = .returned (.int .i64 n) ∧ ((∃ t, Ty.Is s t ∧ n = t.size) ∨ ((∀ t, ¬ Ty.Is s t) ∧ n = -1)) ∧ Fr No w w'

theorem Has.blk {w : World} {q m : Nat} {ps : List Nat} {D : List Ty} {t : Ty} {p : Nat} (h : Has ps D t p) (hP : Pool w q m ps D) :
    ∃ x y i, Blk w p 61 #[S (sgn t), .int .i64 (num t), x, y, .int .i64 t.size, .int .i64 i] ∧ Kids ps D t x y := by
  obtain ⟨i, h1, h2⟩ := h
  obtain ⟨x, y, hb, hk⟩ := hP.node i t p h1 h2
  exact ⟨x, y, i, hb, hk⟩

end Go.Proofs.Ytmpadnnpmbgdcaa
