/- Reading a term; TermValid, TermHead, TermSize of the program. -/
import Derived.Test.YthbidlcfahdfhaaDoorTparts
import Derived.Test.YthbidlcfahdfhaaDoorSpec
namespace Go.Proofs.YthbidlcfahdfhaaDoor
open Go.RowKit Go.ChangeMaps

set_option maxHeartbeats 1000000 in
theorem next_open (f : Nat) (hIH : ReadSaid f) (w : World) (R : Nat) (bs : List (List UInt8)) (A : Option Addr) (c n : Nat) (u : List UInt8) (k : Nat) (hn : n = bs.length) (hA : NSl w A bs) (hAR : ∀ g o, A = some ⟨g, o, none⟩ → g ≠ R) (hR : TRdr w R (40 :: u) k) (hu : u.length ≤ 6000)
    (huf : u.length < f) (hnk : n ≤ k) (hk : k ≤ 300) :
    Calls Tryd.prog 49 #[Ptr R, .slice A n c] w fun e w' => ReadP w R bs (rdParts (tmRd f) u k) e w' := by
  have hlt := hR.lt
  have SK := Lib.hid (skip_one w R (40 :: u) k 40 hR)
  have NP : Hid (∀ w1, Fr (One R) w w1 → TRdr w1 R u k → Calls Tryd.prog 69 #[Ptr R, .slice A n c] w1 fun e w' => ReadP w R bs (rdParts (tmRd f) u k) e w' ∧ ∃ v, e = .returned v) := fun w1 hf h1 =>
    (nextParts_any f hIH w1 R bs A c n u k hn (hA.fr hf (fun g o e h => hAR g o e h)) hAR h1 hu huf hnk hk).mono fun e w' h => by
      refine ⟨⟨hf.trans h.1, ?_⟩, ?_⟩
      · rcases hr : rdParts (tmRd f) u k with _ | ⟨a, kk, r, m⟩
        · have := h.nil_ hr; exact this
        · obtain ⟨p, h1, h2, h3⟩ := h.yes hr
          exact ⟨p, h1, h2, h3.newT hf.size (fun b hb => hb)⟩
      · rcases hr : rdParts (tmRd f) u k with _ | ⟨a, kk, r, m⟩
        · exact ⟨_, (h.nil_ hr).1⟩
        · obtain ⟨p, h1, _⟩ := h.yes hr; exact ⟨_, h1⟩
  clear hR hA hAR hn hIH
  generalize rdParts (tmRd f) u k = res at NP ⊢
  go_enter Tryd.func49, Tryd.ntmps49
  go_wp2_with fail
  refine SK.out.mono ?_
  rintro e w1 ⟨hf1, ⟨r, hr, rfl, hR1⟩ | ⟨hno, _, _⟩⟩
  · injection hr with _ hr
    subst hr
    go_wp2_with fail
    refine (NP.out w1 hf1 hR1).mono ?_
    rintro e w2 ⟨hpost, v, rfl⟩
    have HP := Lib.hid hpost
    clear hpost
    go_wp2_with fail
    go_ret
    exact HP.out
  · exact absurd rfl (hno u)

theorem next_all : ∀ f : Nat, ReadSaid f
  | 0 => fun w R bs A c n u k _ _ _ _ _ h => by omega
  | f + 1 => fun w R bs A c n u k hn hA hAR hR hu huf hnk hk => by
    by_cases h40 : ∃ r, u = 40 :: r
    · obtain ⟨r, rfl⟩ := h40
      simp at hu huf
      exact next_open f (next_all f) w R bs A c n r k hn hA hAR hR (by omega) (by omega) hnk hk
    · exact next_atom f w R bs A c n u k hn hA hAR hR hu hnk hk (fun r e => h40 ⟨r, e⟩)

/-- what a text is as a term -/
def TmOk (s a : List UInt8) (k : Fo) : Prop := s.length ≤ 6000 ∧ TmIs s a k

theorem TmOk.unique {s a a' : List UInt8} {k k' : Fo} (h : TmOk s a k) (h' : TmOk s a' k') : a = a' ∧ k = k' := by
  have := h.2.1.symm.trans h'.2.1
  simp only [Option.some.injEq, Prod.mk.injEq, and_true] at this
  exact this

def TermP (s : List UInt8) (w : World) (e : Ending) (w' : World) : Prop :=
  Fr No w w' ∧ ((∃ a k p, TmOk s a k ∧ e = .returned (Ptr p) ∧ Tm w' (NewT w w') p (ndH a k) (ndA [] a k) (ndD [] a) (cv k (.parts []))) ∨ ((∀ a k, ¬ TmOk s a k) ∧ e = .returned (.pointer none)))

set_option maxHeartbeats 1000000 in
theorem readTerm_any (w : World) (s : List UInt8) (hs : s.length ≤ maxLen) :
    Calls Tryd.prog 31 #[S s] w fun e w' => TermP s w e w' := by
  unfold maxLen at hs
  by_cases hl : 6000 < s.length
  · have hb : decide ((6000 : Int) < (s.length : Int)) = true := by simp; omega
    have HB : Hid (∀ a k, ¬ TmOk s a k) := fun a k h => by have := h.1; omega
    go_enter Tryd.func31, Tryd.ntmps31
    go_wp2_with fail
    go_ret
    exact ⟨Fr.refl _ _, .inr ⟨HB.out, rfl⟩⟩
  · have hb : decide ((6000 : Int) < (s.length : Int)) = false := by simp; omega
    have hR0 : TRdr (w.alloc (.cells #[S s, .int .i64 0] 62)) w.heap.size s 0 := Blk.new _ _ _
    have hf0 : Fr No w (w.alloc (.cells #[S s, .int .i64 0] 62)) := (Fr.refl _ _).alloc _
    have NX : Hid (Calls Tryd.prog 49 #[Ptr w.heap.size, .slice none 0 0] (w.alloc (.cells #[S s, .int .i64 0] 62)) fun e w' => ReadP (w.alloc (.cells #[S s, .int .i64 0] 62)) w.heap.size [] (tmRd (s.length + 1) s 0) e w') :=
      next_all (s.length + 1) _ w.heap.size [] none 0 0 s 0 rfl (fun j x h => by simp at h) (fun g o h => by cases h) hR0 (by omega) (Nat.lt_succ_self _) (Nat.le_refl _) (by omega)
    have HS : Hid (s.length ≤ 6000) := by show _ ≤ _; omega
    clear hR0
    go_enter Tryd.func31, Tryd.ntmps31
    go_wp2_with fail
    refine NX.out.mono ?_
    rintro e w1 hpost
    have hf1 : Fr No w w1 := hf0.then_ hpost.1 (fun i hi e => by unfold One at e; omega)
    rcases hres : tmRd (s.length + 1) s 0 with _ | ⟨a, k, r, n⟩
    · obtain ⟨rfl, u, m, hR1⟩ := hpost.nil_ hres
      have HN : Hid (∀ a k, ¬ TmOk s a k) := fun a k h => by
        have := (tm_iff s a k (treeSize a k) (s.length + 1) (Nat.lt_succ_self _)).2 ⟨h.2, rfl⟩
        rw [hres] at this; cases this
      have c0 : w1.cell? ⟨w.heap.size, 0, none⟩ = some (S u) := (hR1.cell 0).trans rfl
      have hlt := hR1.lt
      clear hres hpost hR1
      by_cases hu : u = []
      · subst hu
        go_wp2_with fail
        go_ret
        exact ⟨hf1, .inr ⟨HN.out, rfl⟩⟩
      · have hs1 : u.isEmpty = false := by cases u; exact absurd rfl hu; rfl
        go_wp2_with fail
        go_ret
        exact ⟨hf1, .inr ⟨HN.out, rfl⟩⟩
    · obtain ⟨p, rfl, hR1, htm⟩ := hpost.yes hres
      have c0 : w1.cell? ⟨w.heap.size, 0, none⟩ = some (S r) := (hR1.cell 0).trans rfl
      have hlt := hR1.lt
      have HTM := Lib.hid (htm.newT (w := w) hf0.size (fun b hb => hb))
      have HRES := Lib.hid hres
      clear hres hpost hR1 htm
      by_cases hu : r = []
      · subst hu
        have HT := Lib.hid ((tm_iff s a k n (s.length + 1) (Nat.lt_succ_self _)).1 HRES.out).1
        go_wp2_with fail
        go_ret
        exact ⟨hf1, .inl ⟨a, k, p, ⟨HS.out, HT.out⟩, rfl, HTM.out⟩⟩
      · have hs1 : r.isEmpty = false := by cases r; exact absurd rfl hu; rfl
        have HN : Hid (∀ a k, ¬ TmOk s a k) := fun a' k' h => by
          have := (tm_iff s a' k' (treeSize a' k') (s.length + 1) (Nat.lt_succ_self _)).2 ⟨h.2, rfl⟩
          rw [HRES.out] at this
          simp only [Option.some.injEq, Prod.mk.injEq] at this
          exact hu this.2.2.1
        go_wp2_with fail
        go_ret
        exact ⟨hf1, .inr ⟨HN.out, rfl⟩⟩

def AnsB (P : Prop) (w : World) (e : Ending) (w' : World) : Prop := ∃ b : Bool, e = .returned (.bool b) ∧ (b = true ↔ P) ∧ Fr No w w'

set_option maxHeartbeats 400000 in
theorem implTmValid (w : World) (s : List UInt8) (hs : s.length ≤ maxLen) :
    Calls Tryd.prog 12 #[S s] w fun e w' => AnsB (∃ a k, TmOk s a k) w e w' := by
  go_enter Tryd.func12, Tryd.ntmps12
  go_wp2_with fail
  refine (readTerm_any w s hs).mono ?_
  rintro e w1 ⟨hf, ⟨a, k, p, hi, rfl, htm⟩ | ⟨hno, rfl⟩⟩
  · go_wp2
    go_ret
    exact ⟨true, rfl, ⟨fun _ => ⟨a, k, hi⟩, fun _ => rfl⟩, hf⟩
  · go_wp2
    go_ret
    exact ⟨false, rfl, ⟨fun h => (by cases h), fun ⟨a, k, h⟩ => (hno a k h).elim⟩, hf⟩

/-- a number that a term has, or -1 -/
def AnsN (F : List UInt8 → Fo → Int) (s : List UInt8) (w : World) (e : Ending) (w' : World) : Prop := ∃ n : Int, e = .returned (.int .i64 n) ∧ ((∃ a k, TmOk s a k ∧ n = F a k) ∨ ((∀ a k, ¬ TmOk s a k) ∧ n = -1)) ∧ Fr No w w'

set_option maxHeartbeats 400000 in
theorem implTmSize (w : World) (s : List UInt8) (hs : s.length ≤ maxLen) :
    Calls Tryd.prog 29 #[S s] w fun e w' => AnsN (fun a k => treeSize a k) s w e w' := by
  go_enter Tryd.func29, Tryd.ntmps29
  go_wp2_with fail
  refine (readTerm_any w s hs).mono ?_
  rintro e w1 ⟨hf, ⟨a, k, p, hi, rfl, htm⟩ | ⟨hno, rfl⟩⟩
  · obtain ⟨_, A, c, hb, _⟩ := htm.open_
    have hw := hi.2.wf
    have hsz := node_size [] hi.2.2.1 hw.1 hw.2
    rw [hsz] at hb
    have c4 : w1.cell? ⟨p, 4, none⟩ = some (.int .i64 (treeSize a k)) := (hb.cell 4).trans rfl
    clear hb hsz hw
    go_wp2
    go_ret
    exact ⟨_, rfl, .inl ⟨a, k, hi, rfl⟩, hf⟩
  · go_wp2
    go_ret
    exact ⟨_, rfl, .inr ⟨hno, rfl⟩, hf⟩

/-- a text that a term has, or none -/
def AnsH (s : List UInt8) (w : World) (e : Ending) (w' : World) : Prop := ∃ r : List UInt8, e = .returned (S r) ∧ ((∃ a k, TmOk s a k ∧ r = ndH a k) ∨ ((∀ a k, ¬ TmOk s a k) ∧ r = [])) ∧ Fr No w w'

set_option maxHeartbeats 400000 in
theorem implTmHead (w : World) (s : List UInt8) (hs : s.length ≤ maxLen) :
    Calls Tryd.prog 14 #[S s] w fun e w' => AnsH s w e w' := by
  go_enter Tryd.func14, Tryd.ntmps14
  go_wp2_with fail
  refine (readTerm_any w s hs).mono ?_
  rintro e w1 ⟨hf, ⟨a, k, p, hi, rfl, htm⟩ | ⟨hno, rfl⟩⟩
  · obtain ⟨_, A, c, hb, _⟩ := htm.open_
    have c0 : w1.cell? ⟨p, 0, none⟩ = some (S (ndH a k)) := (hb.cell 0).trans rfl
    have hlt := hb.lt
    clear hb
    go_wp2
    go_ret
    exact ⟨_, rfl, .inl ⟨a, k, hi, rfl⟩, hf⟩
  · go_wp2
    go_ret
    exact ⟨_, rfl, .inr ⟨hno, rfl⟩, hf⟩
end Go.Proofs.YthbidlcfahdfhaaDoor
