import Derived.Test.YtmpadnnpmbgdcaaVars
namespace Go.Proofs.Ytmpadnnpmbgdcaa
open Go.RowKit Go.ChangeMaps

set_option maxHeartbeats 1000000 in
theorem add_o (B q m : Nat) (ps : List Nat) (D : List Ty) : AddSaid B q m ps D .o := by
  intro w A xs c vs p hP hB ho hv hlen hh
  obtain ⟨a, b, k, hb, rfl, rfl⟩ := hh.blk hP
  have c0 : w.cell? ⟨p, 0, none⟩ = some (S [111]) := (hb.cell 0).trans rfl
  have HB := Lib.hid hb
  have FIN : Hid (AddPost B q m ps D (addV vs .o) w (.returned (.slice A xs.length c)) w) := ⟨A, xs, c, rfl, hP, Below.refl _ _, ho, hv⟩
  clear hb ho hv
  generalize xs.length = n at FIN ⊢
  go_enter Try.func72, Try.ntmps72
  go_wp2_with fail
  refine (compound_no _ _ _ _ _ _ _ HB.out).mono ?_
  rintro e w' ⟨rfl, rfl⟩
  go_wp2_with fail
  go_ret
  exact FIN.out

set_option maxRecDepth 100000 in
set_option maxHeartbeats 1000000 in
theorem add_n (B q m : Nat) (ps : List Nat) (D : List Ty) (hlow : q < B ∧ m < B ∧ ∀ p ∈ ps, p < B) (f : Bool) (l r : Ty) (ihl : AddSaid B q m ps D l) (ihr : AddSaid B q m ps D r) : AddSaid B q m ps D (.n f l r) := by
  intro w A xs c vs p hP hB ho hv hlen hh
  have hpB : p < B := hlow.2.2 p hh.memp
  obtain ⟨pl, pr, k, hb, hl, hr⟩ := hh.kids hP
  simp only [Ty.size] at hlen
  have HB := Lib.hid hb
  have CELLS : Hid (∀ w', Below B w w' → w'.cell? ⟨p, 2, none⟩ = some (Ptr pl) ∧ w'.cell? ⟨p, 3, none⟩ = some (Ptr pr)) := fun w' hbl =>
    ⟨(hbl.cell (p := ⟨p, 2, none⟩) hpB).trans ((hb.cell 2).trans rfl), (hbl.cell (p := ⟨p, 3, none⟩) hpB).trans ((hb.cell 3).trans rfl)⟩
  have IL : Hid (∀ w', Below B w w' → w'.heap = w.heap → Calls Try.prog 72 #[.slice A xs.length c, Ptr pl] w' fun e w2 => AddPost B q m ps D (addV vs l) w e w2) := fun w' hbl he =>
    (ihl w' A xs c vs pl (hP.below hbl hlow) (by rw [he]; exact hB) ⟨ho.1, by rw [he]; exact ho.2⟩ hv (by omega) hl).mono fun e w2 ⟨A', xs', c', h1, h2, h3, h4, h5⟩ => ⟨A', xs', c', h1, h2, hbl.trans h3, h4, h5⟩
  have hlen2 := addV_len l vs
  have IR : Hid (∀ w' A' (xs' : List Nat) c', w'.ownsRow B 56 1 (.slice A' xs'.length c') xs'.length (xs'.map Ptr) → VAt ps D (addV vs l) xs' → Below B w w' → Pool w' q m ps D →
      Calls Try.prog 72 #[.slice A' xs'.length c', Ptr pr] w' fun e w2 => AddPost B q m ps D (addV vs (.n f l r)) w e w2) := fun w' A' xs' c' h2 h3 h4 h5 =>
    (ihr w' A' xs' c' (addV vs l) pr h5 (Nat.le_trans hB h4.size) h2 h3 (by omega) hr).mono fun e w2 ⟨A2, xs2, c2, g1, g2, g3, g4, g5⟩ => ⟨A2, xs2, c2, g1, g2, h4.trans g3, g4, g5⟩
  clear hb ho hv ihl ihr hlen2
  generalize hxn : xs.length = n at IL ⊢
  clear hxn
  go_enter Try.func72, Try.ntmps72
  go_wp2_with fail
  refine (compound_yes _ _ _ _ _ _ _ _ HB.out).mono ?_
  rintro e w' ⟨rfl, rfl⟩
  go_wp2_with fail
  obtain ⟨p2, p3⟩ := CELLS.out w (Below.refl _ _)
  have hbw : Below B w w.drew := (Below.refl _ _).drew
  go_region_held3 (fun w' => w'.cell? ⟨p, 2, none⟩ = some (Ptr pl) ∧ w'.cell? ⟨p, 3, none⟩ = some (Ptr pr)) (go_keep)
    (first | (go_at_call 72; ((with_reducible refine (IL.out _ hbw rfl).mono ?_); rintro e w2 ⟨A1, xs1, c1, rfl, hP1, hb1, ho1, hv1⟩; obtain ⟨d2, d3⟩ := CELLS.out w2 hb1)) | (go_at_call 72; ((with_reducible refine (IR.out _ A1 xs1 c1 ho1 hv1 hb1 hP1).mono ?_); rintro e w3 ⟨A2, xs2, c2, rfl, hP2, hb2, ho2, hv2⟩; obtain ⟨e2, e3⟩ := CELLS.out w3 hb2)))
  go_wp2_with fail
  go_ret
  exact ⟨A2, xs2, c2, rfl, hP2, hb2, ho2, hv2⟩

theorem add_any (B q m : Nat) (ps : List Nat) (D : List Ty) (hlow : q < B ∧ m < B ∧ ∀ p ∈ ps, p < B) (t : Ty) : AddSaid B q m ps D t := by
  induction t with
  | v n => exact add_var B q m ps D hlow n
  | o => exact add_o B q m ps D
  | n f l r ihl ihr => exact add_n B q m ps D hlow f l r ihl ihr

theorem Pool.low {w : World} {q m : Nat} {ps : List Nat} {D : List Ty} (h : Pool w q m ps D) : q < w.heap.size ∧ m < w.heap.size ∧ ∀ p ∈ ps, p < w.heap.size :=
  ⟨h.head.lt, by obtain ⟨f, hm, _⟩ := h.map; exact hm.lt, fun _ hp => h.lt hp⟩

/-- the variables of a type, as nodes -/
theorem vars_any (w : World) (q m : Nat) (ps : List Nat) (D : List Ty) (t : Ty) (p : Nat) (hP : Pool w q m ps D) (hh : Has ps D t p) (hsz : t.size ≤ 1000) :
    Calls Try.prog 47 #[Ptr p] w fun e w' => AddPost w.heap.size q m ps D (addV [] t) w e w' := by
  have CALL : Hid (Calls Try.prog 72 #[.slice none 0 0, Ptr p] w fun e w' => AddPost w.heap.size q m ps D (addV [] t) w e w') :=
    add_any w.heap.size q m ps D hP.low t w none [] 0 [] p hP (Nat.le_refl _) (World.ownsRow_nil _ _ _ _) ⟨rfl, fun j n x h => by simp at h⟩ (by simpa using hsz) hh
  go_enter Try.func47, Try.ntmps47
  go_wp2_with fail
  refine CALL.out.mono ?_
  rintro e w1 ⟨A, xs, c, rfl, h1, h2, h3, h4⟩
  go_wp2_with fail
  go_ret
  exact ⟨A, xs, c, rfl, h1, h2, h3, h4⟩
end Go.Proofs.Ytmpadnnpmbgdcaa
