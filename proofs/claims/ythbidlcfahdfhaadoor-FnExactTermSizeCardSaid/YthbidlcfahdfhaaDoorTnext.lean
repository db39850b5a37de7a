/- The reader of terms reads as tmRd says. -/
import Derived.Test.YthbidlcfahdfhaaDoorTk
import Derived.Deep.RegionHeld3
namespace Go.Proofs.YthbidlcfahdfhaaDoor
open Go.RowKit Go.ChangeMaps

def NewT (w w' : World) : Nat → Prop := fun b => w.heap.size ≤ b ∧ b < w'.heap.size

def ReadP (w : World) (R : Nat) (bs : List (List UInt8)) (res : TR) (e : Ending) (w' : World) : Prop :=
  Fr (One R) w w' ∧ match res with
  | some (a, k, r, n) => ∃ p, e = .returned (Ptr p) ∧ TRdr w' R r n ∧ Tm w' (NewT w w') p (ndH a k) (ndA bs a k) (ndD bs a) (cv k (.parts bs))
  | none => e = .returned (.pointer none) ∧ ∃ u n, TRdr w' R u n

theorem ReadP.no {w w' : World} {R : Nat} {bs : List (List UInt8)} {res : TR} {u : List UInt8} {n : Nat} (hr : res = none) (hf : Fr (One R) w w') (ht : TRdr w' R u n) : ReadP w R bs res (.returned (.pointer none)) w' := by
  subst hr
  exact ⟨hf, rfl, u, n, ht⟩

theorem ReadP.nil_ {w w' : World} {R : Nat} {bs : List (List UInt8)} {res : TR} {e : Ending} (hr : res = none) (h : ReadP w R bs res e w') : e = .returned (.pointer none) ∧ ∃ u n, TRdr w' R u n := by
  subst hr; exact h.2

theorem ReadP.yes {w w' : World} {R : Nat} {bs : List (List UInt8)} {res : TR} {e : Ending} {a : List UInt8} {k : Fo} {r : List UInt8} {n : Nat} (hr : res = some (a, k, r, n)) (h : ReadP w R bs res e w') :
    ∃ p, e = .returned (Ptr p) ∧ TRdr w' R r n ∧ Tm w' (NewT w w') p (ndH a k) (ndA bs a k) (ndD bs a) (cv k (.parts bs)) := by
  subst hr; exact h.2

def ReadSaid (f : Nat) : Prop := ∀ (w : World) (R : Nat) (bs : List (List UInt8)) (A : Option Addr) (c n : Nat) (u : List UInt8) (k : Nat), n = bs.length → NSl w A bs → (∀ g o, A = some ⟨g, o, none⟩ → g ≠ R) → TRdr w R u k → u.length ≤ 6000 → u.length < f → n ≤ k → k ≤ 300 →
  Calls Tryd.prog 49 #[Ptr R, .slice A n c] w fun e w' => ReadP w R bs (tmRd f u k) e w'

theorem trdr_cut {w : World} {R : Nat} {u : List UInt8} {k : Nat} (h : TRdr w R u k) (u2 : List UInt8) : TRdr (w.setCell ⟨R, 0, none⟩ (S u2)) R u2 k ∧ Fr (One R) w (w.setCell ⟨R, 0, none⟩ (S u2)) :=
  ⟨Blk.set_ h 0 (S u2), (Fr.refl (One R) w).setCell (p := ⟨R, 0, none⟩) (.inl rfl) _⟩

theorem pre_yes (c : UInt8) (u : List UInt8) : Lib.hasPrefix (c :: u) [c] = true ∧ Lib.trimPrefix (c :: u) [c] = u := by
  simp [Lib.hasPrefix, Lib.trimPrefix]

theorem pre_no (c : UInt8) (u : List UInt8) (h : ∀ r, u ≠ c :: r) : Lib.hasPrefix u [c] = false ∧ Lib.trimPrefix u [c] = u := by
  have : Lib.hasPrefix u [c] = false := by
    cases u with
    | nil => rfl
    | cons d u =>
      have hd : c ≠ d := fun e => h u (by rw [e])
      simp [Lib.hasPrefix, List.isPrefixOf, hd]
  exact ⟨this, by simp [Lib.trimPrefix, this]⟩

/-- skipping one sign -/
theorem skip_one (w : World) (R : Nat) (u : List UInt8) (k : Nat) (c : UInt8) (h : TRdr w R u k) :
    Calls Tryd.prog 68 #[Ptr R, S [c]] w fun e w' => Fr (One R) w w' ∧ ((∃ r, u = c :: r ∧ e = .returned (.bool true) ∧ TRdr w' R r k) ∨ ((∀ r, u ≠ c :: r) ∧ e = .returned (.bool false) ∧ TRdr w' R u k)) := by
  by_cases hc : ∃ r, u = c :: r
  · obtain ⟨r, rfl⟩ := hc
    refine (skip_t w R (c :: r) [c] r k true h (pre_yes c r).1 (pre_yes c r).2).mono ?_
    rintro e w' ⟨rfl, rfl⟩
    exact ⟨(trdr_cut h r).2, .inl ⟨r, rfl, rfl, (trdr_cut h r).1⟩⟩
  · have hn := pre_no c u (fun r e => hc ⟨r, e⟩)
    refine (skip_t w R u [c] u k false h hn.1 hn.2).mono ?_
    rintro e w' ⟨rfl, rfl⟩
    exact ⟨(trdr_cut h u).2, .inr ⟨fun r e => hc ⟨r, e⟩, rfl, (trdr_cut h u).1⟩⟩

theorem tmRd_at (f : Nat) (u : List UInt8) (n : Nat) (h : ∀ r, u ≠ 40 :: r) : tmRd (f + 1) u n = if 300 < n + 1 then none else if isAtomTm (wordOf u) then some (wordOf u, .nil, behind u, n + 1) else none := by
  rw [tmRd]
  intro r e
  exact h r e

theorem truth_not_name {a : List UInt8} (h : a = tTrue ∨ a = tFalse) : isName a = false := by rcases h with rfl | rfl <;> decide

theorem Tm.newT {w w1 w' : World} {T : Nat → Prop} {p : Nat} {h a : List UInt8} {d : Nat} {k : Ts} (ht : Tm w' T p h a d k) (hs : w.heap.size ≤ w1.heap.size) (hT : ∀ b, T b → w1.heap.size ≤ b ∧ b < w'.heap.size) : Tm w' (NewT w w') p h a d k :=
  ht.mono (fun b hb => ⟨Nat.le_trans hs (hT b hb).1, (hT b hb).2⟩) (fun _ _ => rfl)

/-- an atom -/
theorem next_atom (f : Nat) (w : World) (R : Nat) (bs : List (List UInt8)) (A : Option Addr) (c n : Nat) (u : List UInt8) (k : Nat) (hn : n = bs.length) (hA : NSl w A bs) (hAR : ∀ g o, A = some ⟨g, o, none⟩ → g ≠ R) (hR : TRdr w R u k) (hu : u.length ≤ 6000)
    (hnk : n ≤ k) (hk : k ≤ 300) (h40 : ∀ r, u ≠ 40 :: r) :
    Calls Tryd.prog 49 #[Ptr R, .slice A n c] w fun e w' => ReadP w R bs (tmRd (f + 1) u k) e w' := by
  rw [tmRd_at f u k h40]
  have hlt := hR.lt
  have SK := Lib.hid (skip_one w R u k 40 hR)
  have H40 := Lib.hid h40
  have HA := Lib.hid hA
  have HAR := Lib.hid hAR
  have HNN := Lib.hid hn
  clear h40 hR hA hAR hn
  obtain ⟨wd, hwd⟩ : ∃ wd, wd = wordOf u := ⟨_, rfl⟩
  have hwl : wd.length ≤ 6000 := by
    have := word_behind u
    have := congrArg List.length this
    simp at this
    rw [hwd]; omega
  have HWD := Lib.hid hwd
  rw [← hwd]
  clear hwd
  obtain ⟨res, hres⟩ : ∃ res : TR, res = (if 300 < k + 1 then none else if isAtomTm wd then some (wd, .nil, behind u, k + 1) else none) := ⟨_, rfl⟩
  rw [← hres]
  have HRES := Lib.hid hres
  clear hres
  go_enter Tryd.func49, Tryd.ntmps49
  go_wp2_with fail
  refine SK.out.mono ?_
  rintro e w1 ⟨hf1, ⟨r, hr, _, _⟩ | ⟨_, rfl, hR1⟩⟩
  · exact absurd hr (H40.out r)
  go_wp2_with fail
  refine (word_any w1 R u k hR1 hu (by omega)).mono ?_
  rintro e w2 ⟨hR2, hf2, rfl⟩
  have hf02 := hf1.trans hf2
  by_cases h300 : 300 < k + 1
  · rw [if_pos h300] at hR2
    rw [if_pos h300]
    have hres := HRES.out.trans (if_pos h300)
    have HRN := Lib.hid hres
    clear hres
    go_wp2_with fail
    refine (nameIs_any [] w2 (by simp)).mono ?_
    rintro e w3 ⟨rfl, hf3⟩
    rw [show isName [] = false from rfl]
    have HR3 := Lib.hid (hR2.fr hf3 (fun h => h))
    have HF3 := Lib.hid (hf02.trans (hf3.mono (fun _ _ h => h.elim)))
    clear hR2 hf3 hf02 hf1 hf2 hR1
    go_wp2_with fail
    go_ret
    exact ReadP.no HRN.out HF3.out HR3.out
  · rw [if_neg h300] at hR2
    rw [if_neg h300, ← HWD.out]
    have HRES2 := Lib.hid (HRES.out.trans (if_neg h300))
    clear HRES
    by_cases htr : wd = tTrue ∨ wd = tFalse
    · have FIN : Hid (∀ e w', NewPost (fun _ => False) hTruth wd .nil w2 e w' → ∃ p, e = .returned (Ptr p) ∧ ReadP w R bs res (.returned (Ptr p)) w') := by
        rintro e w' ⟨p, rfl, hf3, hp, htm⟩
        have ha : isAtomTm wd = true := by rcases htr with rfl | rfl <;> decide
        have hne : wd ≠ [] := by rcases htr with rfl | rfl <;> decide
        have hr := HRES2.out
        rw [ha] at hr
        subst hr
        refine ⟨p, rfl, hf02.trans (hf3.mono (fun _ _ h => h.elim)), ?_⟩
        refine ⟨p, rfl, hR2.fr hf3 (fun h => h), ?_⟩
        have := htm.newT (w := w) hf02.size (fun b hb => hb.elim (fun h => h.elim) (fun h => h))
        simpa [ndH, ndA, ndD, hne, htr, cv] using this
      have CALL : Hid (∀ a, a = wd → Calls Tryd.prog 71 #[.string ⟨#[116, 114, 117, 116, 104]⟩, S a, .slice none 0 0] w2 fun e w' => NewPost (fun _ => False) hTruth wd .nil w2 e w') := fun a ha => by
        subst ha
        exact newTerm_any w2 (fun _ => False) hTruth a .nil none 0 (fun _ h => h.elim) (TSl.nil _ _ _) (by simp [Ts.size]) (by simp [Ts.len])
      clear hR2 hf02 hf1 hf2 hR1 HWD
      rcases htr with rfl | rfl
      · unfold tTrue at FIN CALL ⊢
        go_wp2_with fail
        refine (CALL.out _ rfl).mono ?_
        rintro e w3 hpost
        obtain ⟨p, rfl, hfin⟩ := FIN.out _ _ hpost
        have HF := Lib.hid hfin
        clear hfin hpost
        go_wp2_with fail
        go_ret
        exact HF.out
      · unfold tFalse at FIN CALL ⊢
        go_wp2_with fail
        refine (CALL.out _ rfl).mono ?_
        rintro e w3 hpost
        obtain ⟨p, rfl, hfin⟩ := FIN.out _ _ hpost
        have HF := Lib.hid hfin
        clear hfin hpost
        go_wp2_with fail
        go_ret
        exact HF.out
    · have n1 : (wd == [116, 114, 117, 101]) = false := by simp; exact fun e => htr (.inl e)
      have n2 : (wd == [102, 97, 108, 115, 101]) = false := by simp; exact fun e => htr (.inr e)
      have HT := Lib.hid htr
      clear htr
      have hat : isAtomTm wd = isName wd := by unfold isAtomTm tTrue tFalse; rw [n1, n2]; rfl
      have HRES3 := Lib.hid (HRES2.out.trans (by rw [hat]))
      clear hat HRES2
      go_wp2_with fail
      refine (nameIs_any wd w2 hwl).mono ?_
      rintro e w3 ⟨rfl, hf3⟩
      have hR3 := hR2.fr hf3 (fun h => h)
      have hf03 := hf02.trans (hf3.mono (fun _ _ h => h.elim))
      rcases hnm : isName wd with _ | _
      · have HR3 := Lib.hid hR3
        have HF3 := Lib.hid hf03
        have HRN : Hid (res = none) := by
          show _ = _
          rw [HRES3.out, hnm]; rfl
        clear hR2 hf3 hf02 hf1 hf2 hR1 hR3 hf03 hnm
        go_wp2_with fail
        go_ret
        exact ReadP.no HRN.out HF3.out HR3.out
      · have hne := (name_bytes hnm).1
        have NT : Hid (Calls Tryd.prog 72 #[S wd, .slice A n c] w3 fun e w' => NameT bs wd w3 e w') := nameTerm_any w3 A bs c n HNN.out wd (HA.out.fr hf03 (fun g o e h => HAR.out g o e h)) (by omega)
        have FIN : Hid (∀ e w', NameT bs wd w3 e w' → ∃ p, e = .returned (Ptr p) ∧ ReadP w R bs res (.returned (Ptr p)) w') := by
          rintro e w' ⟨p, rfl, hf4, htm⟩
          have hr : res = some (wd, .nil, behind u, k + 1) := by rw [HRES3.out, hnm]; rfl
          subst hr
          refine ⟨p, rfl, hf03.trans (hf4.mono (fun _ _ h => h.elim)), p, rfl, hR3.fr hf4 (fun h => h), ?_⟩
          have h2 := htm.newT (w := w) hf03.size (fun b hb => hb)
          simpa [ndH, ndA, ndD, hne, HT.out, cv] using h2
        clear hR2 hf3 hf02 hf1 hf2 hR1 hR3 hf03 hnm hne
        go_wp2_with fail
        refine NT.out.mono ?_
        rintro e w4 hpost
        obtain ⟨p, rfl, hfin⟩ := FIN.out _ _ hpost
        have HF := Lib.hid hfin
        clear hfin hpost
        go_wp2_with fail
        go_ret
        exact HF.out
end Go.Proofs.YthbidlcfahdfhaaDoor
