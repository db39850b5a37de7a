import Derived.Test.YtmpadnnpmbgdcaaSvars2
namespace Go.Proofs.Ytmpadnnpmbgdcaa
open Go.RowKit Go.ChangeMaps

set_option maxRecDepth 100000 in
set_option maxHeartbeats 1000000 in
theorem sv_n (f : Bool) (l r : Ty) (hlr : (Ty.n f l r).lets) (ihl : SvSaid l) (ihr : SvSaid r) : SvSaid (.n f l r) := by
  intro w A c T B V vc vs hvs hlen hB hT h ho
  simp only [Ty.size] at hlen
  have hlen2 := addV_len l vs
  have hown := ho.lt
  rw [Ty.kids_n] at h
  obtain ⟨g, o, A0, c0, A1, c1, A2, c2, rfl, hg, q0, q1, q2, q3, q4, q5, s0, s1, s2, hl⟩ := h.three
  have hkl : (Ty.n f l r).kids.len = 3 := rfl
  rw [hkl, Ty.atom_n]
  have b0 := Blk.new w 47 #[S [], .slice (some ⟨g, o, none⟩) 3 c]
  have hgv : (Value.slice V (letS vs).length vc).ownBlock ≠ some g := (hT g hg).2
  have hbv : (Value.slice V (letS vs).length vc).ownBlock ≠ some w.heap.size := fun e => by have := (hown _ e).2; omega
  have CELLS : Hid (∀ (w' : World), Fr (fun b => (Value.slice V (letS vs).length vc).ownBlock = some b) (w.alloc (.cells #[S [], .slice (some ⟨g, o, none⟩) 3 c] 47)) w' →
      w'.cell? ⟨w.heap.size, 1, none⟩ = some (.slice (some ⟨g, o, none⟩) 3 c) ∧ w'.cell? ⟨g, o + 2, none⟩ = some (S l.atom) ∧ w'.cell? ⟨g, o + 3, none⟩ = some (.slice A1 l.kids.len c1) ∧
      w'.cell? ⟨g, o + 4, none⟩ = some (S r.atom) ∧ w'.cell? ⟨g, o + 5, none⟩ = some (.slice A2 r.kids.len c2) ∧ g < w'.heap.size ∧ w.heap.size < w'.heap.size) := by
    intro w' hf
    have hfw : Fr (fun b => (Value.slice V (letS vs).length vc).ownBlock = some b) w w' := ((Fr.refl _ w).alloc _).trans hf
    have b1 := b0.fr hf hbv
    exact ⟨(b1.cell 1).trans rfl, (hfw.cell (p := ⟨g, o + 2, none⟩) hl hgv).trans q2, (hfw.cell (p := ⟨g, o + 3, none⟩) hl hgv).trans q3, (hfw.cell (p := ⟨g, o + 4, none⟩) hl hgv).trans q4, (hfw.cell (p := ⟨g, o + 5, none⟩) hl hgv).trans q5,
      Nat.lt_of_lt_of_le hl hfw.size, b1.lt⟩
  have IL : Hid (∀ ob : Obj, Calls Try.prog 45 #[.agg #[S l.atom, .slice A1 l.kids.len c1], .slice V (letS vs).length vc] ((w.alloc ob).drew) fun e w2 => AddS B (addV vs l) ((w.alloc ob).drew) (.slice V (letS vs).length vc) e w2) := by
    intro ob
    have hfa : Fr No w ((w.alloc ob).drew) := ((Fr.refl No w).alloc ob).drew
    refine ihl _ A1 c1 T B V vc vs hvs (by omega) (Nat.le_trans hB hfa.size) (fun b hb => ⟨Nat.lt_of_lt_of_le (hT b hb).1 hfa.size, (hT b hb).2⟩) (s1.fr (fun b hb => (hT b hb).1) hfa) ?_
    exact own_fr ho hfa (fun _ _ h => h)
  have IR : Hid (∀ (ob : Obj) (w2 : World) (V1 : Option Addr) (v1 : Nat), Fr (fun b => (Value.slice V (letS vs).length vc).ownBlock = some b) ((w.alloc ob).drew) w2 →
      w2.ownsRow B 9 1 (.slice V1 (letS (addV vs l)).length v1) (letS (addV vs l)).length ((letS (addV vs l)).map S) →
      ((Value.slice V1 (letS (addV vs l)).length v1).ownBlock = (Value.slice V (letS vs).length vc).ownBlock ∨ ∀ b, (Value.slice V1 (letS (addV vs l)).length v1).ownBlock = some b → ((w.alloc ob).drew).heap.size ≤ b) →
      Calls Try.prog 45 #[.agg #[S r.atom, .slice A2 r.kids.len c2], .slice V1 (letS (addV vs l)).length v1] w2 fun e w3 => AddS B (addV vs (.n f l r)) w (.slice V (letS vs).length vc) e w3 ∧ Fr (fun b => (Value.slice V (letS vs).length vc).ownBlock = some b) ((w.alloc ob).drew) w3) := by
    intro ob w2 V1 v1 hf hw hloc
    have hfw : Fr (fun b => (Value.slice V (letS vs).length vc).ownBlock = some b) w w2 := (((Fr.refl _ w).alloc ob).drew).trans hf
    have hsz : w.heap.size ≤ ((w.alloc ob).drew).heap.size := by show w.heap.size ≤ (w.alloc ob).heap.size; simp
    refine (ihr w2 A2 c2 T B V1 v1 (addV vs l) (addV_lt l vs hvs hlr.1) (by omega) (Nat.le_trans hB hfw.size) (fun b hb => ⟨Nat.lt_of_lt_of_le (hT b hb).1 hfw.size, fun e => ?_⟩) ?_ hw).mono ?_
    · rcases hloc with h1 | h1
      · exact (hT b hb).2 (h1 ▸ e)
      · have := h1 b e; have := (hT b hb).1; omega
    · exact s2.mono (fun _ h => h) (fun b hb => hfw.block b (hT b hb).1 (hT b hb).2)
    · rintro e w3 ⟨A3, c3, rfl, g1, g2, g3⟩
      refine ⟨⟨A3, c3, rfl, hfw.then_ g1 (fun i hi e => ?_), g2, ?_⟩, hf.then_ g1 (fun i hi e => ?_)⟩
      · rcases hloc with h1 | h1
        · exact h1 ▸ e
        · have := h1 i e; omega
      · rcases g3 with g3 | g3
        · rcases hloc with h1 | h1
          · exact .inl (g3.trans h1)
          · exact .inr (fun b hb => by have := h1 b (g3 ▸ hb); omega)
        · exact .inr (fun b hb => Nat.le_trans hfw.size (g3 b hb))
      · rcases hloc with h1 | h1
        · exact h1 ▸ e
        · have := h1 i e; omega
  clear ihl ihr h q0 q1 q2 q3 q4 q5 s0 s1 s2 hlen2 hgv hbv
  obtain ⟨p1, p2, p3, p4, p5, p6, p7⟩ := CELLS.out _ (Fr.refl _ _)
  have hno : Hid (∀ w' : World, Fr (fun b => (Value.slice V (letS vs).length vc).ownBlock = some b) ((w.alloc (.cells #[S [], .slice (some ⟨g, o, none⟩) 3 c] 47)).drew) w' → Fr (fun b => (Value.slice V (letS vs).length vc).ownBlock = some b) (w.alloc (.cells #[S [], .slice (some ⟨g, o, none⟩) 3 c] 47)) w') :=
    fun w' hf => ((Fr.refl _ _).drew).trans hf
  clear ho hown b0
  generalize (letS vs).length = k at *
  go_enter Try.func45, Try.ntmps45
  go_wp2_with fail
  go_region_held3 (fun w' => w'.cell? ⟨w.heap.size, 1, none⟩ = some (.slice (some ⟨g, o, none⟩) 3 c) ∧ w'.cell? ⟨g, o + 2, none⟩ = some (S l.atom) ∧ w'.cell? ⟨g, o + 3, none⟩ = some (.slice A1 l.kids.len c1) ∧ w'.cell? ⟨g, o + 4, none⟩ = some (S r.atom) ∧ w'.cell? ⟨g, o + 5, none⟩ = some (.slice A2 r.kids.len c2)) (go_keep)
    (first | (go_at_call 45; ((with_reducible refine (IL.out _).mono ?_); rintro e w2 ⟨V1, v1, rfl, g1, g2, g3⟩; obtain ⟨d1, d2, d3, d4, d5, d6, d7⟩ := CELLS.out w2 (hno.out w2 g1))) | (go_at_call 45; ((with_reducible refine (IR.out _ _ V1 v1 g1 g2 g3).mono ?_); rintro e w3 ⟨⟨V2, v2, rfl, k1, k2, k3⟩, k4⟩; obtain ⟨f1, f2, f3, f4, f5, f6, f7⟩ := CELLS.out w3 (hno.out w3 k4))))
  go_wp2_with fail
  go_ret
  exact ⟨V2, v2, rfl, k1, k2, k3⟩

theorem sv_any (t : Ty) : t.lets → SvSaid t := by
  induction t with
  | v n => exact fun h => sv_var n h
  | o => exact fun _ => sv_o
  | n f l r ihl ihr => exact fun h => sv_n f l r h (ihl h.1) (ihr h.2)
end Go.Proofs.Ytmpadnnpmbgdcaa
