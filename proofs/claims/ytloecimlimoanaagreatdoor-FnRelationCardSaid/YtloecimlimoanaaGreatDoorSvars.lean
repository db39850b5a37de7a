/- Stext · Svars · Svars2 · Svars3 -/
import Derived.Test.YtloecimlimoanaaGreatDoorShead
import Derived.Test.YtloecimlimoanaaGreatDoorHas
import Derived.Test.YtloecimlimoanaaGreatDoorVars
import Derived.Deep.RegionHeld3
/- Stext -/
namespace Go.Proofs.YtloecimlimoanaaGreatDoor
open Go.RowKit Go.ChangeMaps

theorem val_str {a : ByteArray} {b : List UInt8} (h : a.data.toList = b) : Value.string a = S b := by
  subst h
  rfl

namespace Fo
/-- the texts of the first trees, with spaces between -/
def textTo : Fo → Nat → List UInt8
  | nil, _ => []
  | cons _ _ _, 0 => []
  | cons a k _, 1 => treeText a k
  | cons a k r, j + 2 => treeText a k ++ 32 :: r.textTo (j + 1)

def cnt : Fo → Nat
  | nil => 0
  | cons _ k r => 1 + k.cnt + r.cnt

theorem nth_cnt : ∀ (f : Fo) (j : Nat) (a : List UInt8) (k : Fo), f.nth j = some (a, k) → k.cnt < f.cnt
  | nil, _, _, _, h => by cases h
  | cons a k r, 0, a', k', h => by
    simp only [nth, Option.some.injEq, Prod.mk.injEq] at h
    obtain ⟨rfl, rfl⟩ := h
    simp only [cnt]; omega
  | cons a k r, j + 1, a', k', h => by
    have := nth_cnt r j a' k' h
    simp only [cnt]; omega

theorem textTo_zero (f : Fo) : f.textTo 0 = [] := by cases f <;> rfl

theorem textTo_succ : ∀ (f : Fo) (j : Nat) (a : List UInt8) (k : Fo), f.nth j = some (a, k) → f.textTo (j + 1) = (if j = 0 then [] else f.textTo j ++ [32]) ++ treeText a k
  | nil, _, _, _, h => by cases h
  | cons a k r, 0, a', k', h => by
    simp only [nth, Option.some.injEq, Prod.mk.injEq] at h
    obtain ⟨rfl, rfl⟩ := h
    simp [textTo]
  | cons a k r, 1, a', k', h => by
    have := textTo_succ r 0 a' k' h
    simp only [if_true, List.nil_append] at this
    simp [textTo, this]
  | cons a k r, j + 2, a', k', h => by
    have := textTo_succ r (j + 1) a' k' h
    simp only [textTo]
    rw [this]
    simp

theorem textTo_len : ∀ (f : Fo), f.textTo f.len = f.texts
  | nil => rfl
  | cons a k nil => by simp [len, textTo, texts, treeText]
  | cons a k (cons b j r) => by
    have := textTo_len (cons b j r)
    simp only [len, textTo, texts, treeText] at this ⊢
    rw [this]

theorem textTo_le : ∀ (f : Fo) (j : Nat), (f.textTo j).length ≤ f.texts.length + 1
  | nil, _ => by simp [textTo]
  | cons a k r, 0 => by simp [textTo]
  | cons a k nil, 1 => by simp [textTo, texts, treeText]
  | cons a k (cons b j' r), 1 => by
    simp only [textTo, texts, treeText, List.length_append]
    omega
  | cons a k nil, j + 2 => by simp [textTo, texts, treeText]
  | cons a k (cons b j' r), j + 2 => by
    have := textTo_le (cons b j' r) (j + 1)
    simp only [textTo, texts, treeText, List.length_append, List.length_cons] at this ⊢
    omega

theorem nth_text {f : Fo} {j : Nat} {a : List UInt8} {k : Fo} (h : f.nth j = some (a, k)) : (treeText a k).length ≤ f.texts.length + 1 := by
  have h1 := textTo_succ f j a k h
  have h2 := textTo_le f (j + 1)
  rw [h1] at h2
  simp only [List.length_append] at h2
  omega
end Fo

end Go.Proofs.YtloecimlimoanaaGreatDoor

/- Svars · Svars2 · Svars3 -/
/- Svars -/
namespace Go.Proofs.YtloecimlimoanaaGreatDoor
open Go.RowKit Go.ChangeMaps

def letS (vs : List Nat) : List (List UInt8) := vs.map fun n => [Ty.letter n]

theorem let_mem {vs : List Nat} (hv : ∀ n ∈ vs, n < 25) {n : Nat} (hn : n < 25) : [Ty.letter n] ∈ letS vs ↔ n ∈ vs := by
  simp only [letS, List.mem_map]
  constructor
  · rintro ⟨k, hk, e⟩
    simp at e
    have := Ty.letter_inj (hv k hk) hn e
    exact this ▸ hk
  · intro h; exact ⟨n, h, rfl⟩

theorem addV_lt (t : Ty) : ∀ vs : List Nat, (∀ n ∈ vs, n < 25) → t.lets → ∀ n ∈ addV vs t, n < 25 := by
  induction t with
  | v k =>
    intro vs hv hk n hn
    simp only [addV] at hn
    split at hn
    · exact hv n hn
    · rcases List.mem_append.1 hn with h | h
      · exact hv n h
      · simp at h; rw [h]; exact hk
  | o => intro vs hv _; exact hv
  | n f l r hl hr => intro vs hv h; exact hr _ (hl vs hv h.1) h.2

/-- texts in a row of the call's own; of what lies below B nothing turns; what is kept above B lies in K -/
def AddS (B : Nat) (vs : List Nat) (w : World) (v : Value) (e : Ending) (w' : World) : Prop :=
  ∃ A c, e = .returned (.slice A (letS vs).length c) ∧ Fr (fun b => v.ownBlock = some b) w w' ∧ w'.ownsRow B 9 1 (.slice A (letS vs).length c) (letS vs).length ((letS vs).map S) ∧
    ((Value.slice A (letS vs).length c).ownBlock = v.ownBlock ∨ ∀ b, (Value.slice A (letS vs).length c).ownBlock = some b → w.heap.size ≤ b)

/-- The model's tree k lies away from the row. -/
def SvSaid (t : Ty) : Prop := ∀ (w : World) (A : Option Addr) (c : Nat) (T : Nat → Prop) (B : Nat) (V : Option Addr) (vc : Nat) (vs : List Nat), (∀ n ∈ vs, n < 25) → vs.length + t.size ≤ 1000 → B ≤ w.heap.size →
  (∀ b, T b → b < w.heap.size ∧ (Value.slice V (letS vs).length vc).ownBlock ≠ some b) → Sl w T A t.kids → w.ownsRow B 9 1 (.slice V (letS vs).length vc) (letS vs).length ((letS vs).map S) →
  Calls Tryz.prog 65 #[.agg #[S t.atom, .slice A t.kids.len c], .slice V (letS vs).length vc] w fun e w' => AddS B (addV vs t) w (.slice V (letS vs).length vc) e w'

end Go.Proofs.YtloecimlimoanaaGreatDoor

/- Svars2 -/
namespace Go.Proofs.YtloecimlimoanaaGreatDoor
open Go.RowKit Go.ChangeMaps

theorem isVar_letter {n : Nat} (h : n < 25) : isVar [Ty.letter n] = true := (var_iff _).2 ⟨n, h, rfl⟩

theorem letS_snoc (vs : List Nat) (n : Nat) : letS (vs ++ [n]) = letS vs ++ [[Ty.letter n]] := by simp [letS]
theorem letS_len (vs : List Nat) : (letS vs).length = vs.length := by simp [letS]

set_option maxRecDepth 100000 in
set_option maxHeartbeats 1000000 in
theorem sv_var (n : Nat) (hn : n < 25) : SvSaid (.v n) := by
  intro w A c T B V vc vs hvs hlen hB _ _ ho
  have hll := letS_len vs
  simp only [Ty.size] at hlen
  have hl2 : (letS vs).length ≤ 1000 := by omega
  have HLL := Lib.hid hll
  clear hll
  have HO := Lib.hid ho
  have hmem := let_mem hvs hn
  have hown := ho.lt
  simp only [Ty.atom, Ty.kids, Fo.len]
  have b0 := Blk.new w 46 #[S [Ty.letter n], .slice A 0 c]
  have CON : Hid (∀ o : Obj, Calls Tryz.prog 85 #[.slice V (letS vs).length vc, S [Ty.letter n]] (w.alloc o) fun e w' => HasS (letS vs) [Ty.letter n] (w.alloc o) e w') :=
    fun o => has_any _ V (letS vs) vc [Ty.letter n] (SSl.of_own (ho.alloc o)) (by omega)
  have HV := Lib.hid (isVar_letter hn)
  have HNO : Hid (n ∉ vs → addV vs (.v n) = vs ++ [n]) := fun h => by simp [addV, h]
  have HYES : Hid (n ∈ vs → addV vs (.v n) = vs) := fun h => by simp [addV, h]
  have hsnoc := letS_snoc vs n
  have HSN := Lib.hid hsnoc
  have HVL : Hid ([Ty.letter n].length ≤ maxLen) := by show 1 ≤ maxLen; unfold maxLen; omega
  clear ho hsnoc
  generalize Ty.letter n = x at b0 CON HV HSN hmem HVL ⊢
  have c0 : (w.alloc (.cells #[S [x], .slice A 0 c] 46)).cell? ⟨w.heap.size, 0, none⟩ = some (S [x]) := (b0.cell 0).trans rfl
  go_enter Tryz.func65, Tryz.ntmps65
  go_wp2_with fail
  refine (var_any2 [x] _ HVL.out).mono ?_
  rintro e w' ⟨rfl, rfl⟩
  rw [HV.out]
  go_wp2_with fail
  refine (CON.out _).mono ?_
  rintro e w' ⟨bb, rfl, hbb, rfl⟩
  clear b0
  cases bb
  · have hni : n ∉ vs := fun h => by have := hbb.2 (hmem.2 h); cases this
    have HE := Lib.hid (HNO.out hni)
    clear hbb hmem hni
    obtain ⟨i0, hi0, hz0, hz1, hz2⟩ := info_parts info_str
    have HOA : Hid (∀ o o' : Obj, ((w.alloc o).alloc o').ownsRow B 9 1 (.slice V (letS vs).length vc) (letS vs).length ((letS vs).map S)) := fun o o' => (HO.out.alloc o).alloc o'
    have HC1 : Hid (∀ o : Obj, ∀ (j : Nat) (u : Value), [S [x]][j]? = some u → ((w.alloc o).alloc (.cells #[S [x]] 9)).cell? ((⟨w.heap.size + 1, 0, none⟩ : Addr).add j) = some u) := fun o => cells_new (w := w.alloc o) (by simp) [S [x]] 9
    have HC2 : Hid (∀ u ∈ [S [x]], u.oneCell' = true) := by
      intro u hu
      simp at hu
      rw [hu]; rfl
    have HC5 : Hid (∀ o o' : Obj, B ≤ ((w.alloc o).alloc o').heap.size) := fun o o' => by simp; omega
    have bnd : ((letS vs).length + 1) * 16 ≤ 140737488355328 := by omega
    have bnd2 : (letS vs).length + 1 ≤ maxLen := by unfold maxLen; omega
    have FIN : Hid (∀ (o o' : Obj) (v' : Value) (w2 : World), w2.ownsRow B 9 1 v' ((letS vs).length + 1) ((letS vs).map S ++ [S [x]]) → ((w.alloc o).alloc o').grownBy w2 (Value.slice V (letS vs).length vc).ownBlock →
        (v'.ownBlock = (Value.slice V (letS vs).length vc).ownBlock ∨ v'.ownBlock = some ((w.alloc o).alloc o').heap.size) → AddS B (addV vs (.v n)) w (.slice V (letS vs).length vc) (.returned v') w2) := by
      intro o o' v' w2 h1 h2 h3
      rw [HE.out]
      obtain ⟨A', c', rfl⟩ := own_form h1
      have e1 : (letS vs).map S ++ [S [x]] = (letS (vs ++ [n])).map S := by rw [HSN.out]; simp
      have e2 : (letS (vs ++ [n])).length = (letS vs).length + 1 := by rw [HSN.out]; simp
      rw [e1] at h1
      refine ⟨A', c', by rw [e2], ?_, by rw [e2]; exact h1, ?_⟩
      · exact (((Fr.refl _ w).alloc o).alloc o').grown h2 (fun k hk => .inl hk)
      · rw [e2]
        rcases h3 with h3 | h3
        · exact .inl h3
        · refine .inr (fun b hb => ?_)
          have hb' : some ((w.alloc o).alloc o').heap.size = some b := h3.symm.trans hb
          injection hb' with hb'
          rw [← hb']; simp; omega
    go_wp2_with (at_builtin; go_must (refine wpList_append_own_at _ rfl _ _ 32 rfl B 9 i0 (.string ⟨#[]⟩) 1 16 Tryz.underlying32 hi0 hz0 hz1 hz2 rfl (by decide) _ (letS vs).length ((letS vs).map S) rfl (HOA.out _ _) ⟨w.heap.size + 1, 0, none⟩ 1 1 [S [x]] rfl rfl (HC1.out _) HC2.out bnd2 bnd (HC5.out _ _) ?_); intro v' w2 hown' hgrow _ hloc; have HF := Lib.hid (FIN.out _ _ v' w2 hown' hgrow hloc); clear hown' hgrow hloc)
    go_ret
    exact HF.out
  · have hni : n ∈ vs := hmem.1 (hbb.1 rfl)
    have HE := Lib.hid (HYES.out hni)
    clear hbb hmem hni
    have FIN : Hid (∀ o : Obj, AddS B (addV vs (.v n)) w (.slice V (letS vs).length vc) (.returned (.slice V (letS vs).length vc)) (w.alloc o)) := by
      intro o
      rw [HE.out]
      exact ⟨V, vc, rfl, (Fr.refl _ w).alloc o, HO.out.alloc o, .inl rfl⟩
    go_wp2_with fail
    go_ret
    exact FIN.out _

set_option maxHeartbeats 1000000 in
theorem sv_o : SvSaid .o := by
  intro w A c T B V vc vs hvs hlen hB _ _ ho
  have FIN : Hid (∀ o : Obj, AddS B (addV vs .o) w (.slice V (letS vs).length vc) (.returned (.slice V (letS vs).length vc)) (w.alloc o)) := fun o => ⟨V, vc, rfl, (Fr.refl _ w).alloc o, ho.alloc o, .inl rfl⟩
  have HV : Hid (isVar [111] = false) := rfl
  have HVL : Hid (([111] : List UInt8).length ≤ maxLen) := by show 1 ≤ maxLen; unfold maxLen; omega
  clear ho
  simp only [Ty.atom, Ty.kids, Fo.len]
  generalize (letS vs).length = k at FIN ⊢
  go_enter Tryz.func65, Tryz.ntmps65
  go_wp2_with fail
  refine (var_any2 [111] _ HVL.out).mono ?_
  rintro e w' ⟨rfl, rfl⟩
  rw [HV.out]
  go_wp2_with fail
  go_ret
  exact FIN.out _
end Go.Proofs.YtloecimlimoanaaGreatDoor

/- Svars3 -/
namespace Go.Proofs.YtloecimlimoanaaGreatDoor
open Go.RowKit Go.ChangeMaps

set_option maxRecDepth 100000 in
set_option maxHeartbeats 1000000 in
theorem sv_n (f : Bool) (l r : Ty) (hlr : (Ty.n f l r).lets) (ihl : SvSaid l) (ihr : SvSaid r) : SvSaid (.n f l r) := by
  intro w A c T B V vc vs hvs hlen hB hT h ho
  simp only [Ty.size] at hlen
  have hlen2 := addV_len l vs
  have hown := ho.lt
  rw [Ty.kids_n] at h
  obtain ⟨g, o, A0, c0, A1, c1, A2, c2, rfl, hg, q0, q1, q2, q3, q4, q5, s0, s1, s2, hl⟩ := h.three
  have hkl : (Ty.n f l r).kids.len = 3 := rfl
  rw [hkl, Ty.atom_n]
  have b0 := Blk.new w 46 #[S [], .slice (some ⟨g, o, none⟩) 3 c]
  have hgv : (Value.slice V (letS vs).length vc).ownBlock ≠ some g := (hT g hg).2
  have hbv : (Value.slice V (letS vs).length vc).ownBlock ≠ some w.heap.size := fun e => by have := (hown _ e).2; omega
  have CELLS : Hid (∀ (w' : World), Fr (fun b => (Value.slice V (letS vs).length vc).ownBlock = some b) (w.alloc (.cells #[S [], .slice (some ⟨g, o, none⟩) 3 c] 46)) w' →
      w'.cell? ⟨w.heap.size, 1, none⟩ = some (.slice (some ⟨g, o, none⟩) 3 c) ∧ w'.cell? ⟨g, o + 2, none⟩ = some (S l.atom) ∧ w'.cell? ⟨g, o + 3, none⟩ = some (.slice A1 l.kids.len c1) ∧
      w'.cell? ⟨g, o + 4, none⟩ = some (S r.atom) ∧ w'.cell? ⟨g, o + 5, none⟩ = some (.slice A2 r.kids.len c2) ∧ g < w'.heap.size ∧ w.heap.size < w'.heap.size) := by
    intro w' hf
    have hfw : Fr (fun b => (Value.slice V (letS vs).length vc).ownBlock = some b) w w' := ((Fr.refl _ w).alloc _).trans hf
    have b1 := b0.fr hf hbv
    exact ⟨(b1.cell 1).trans rfl, (hfw.cell (p := ⟨g, o + 2, none⟩) hl hgv).trans q2, (hfw.cell (p := ⟨g, o + 3, none⟩) hl hgv).trans q3, (hfw.cell (p := ⟨g, o + 4, none⟩) hl hgv).trans q4, (hfw.cell (p := ⟨g, o + 5, none⟩) hl hgv).trans q5,
      Nat.lt_of_lt_of_le hl hfw.size, b1.lt⟩
  have IL : Hid (∀ ob : Obj, Calls Tryz.prog 65 #[.agg #[S l.atom, .slice A1 l.kids.len c1], .slice V (letS vs).length vc] ((w.alloc ob).drew) fun e w2 => AddS B (addV vs l) ((w.alloc ob).drew) (.slice V (letS vs).length vc) e w2) := by
    intro ob
    have hfa : Fr No w ((w.alloc ob).drew) := ((Fr.refl No w).alloc ob).drew
    refine ihl _ A1 c1 T B V vc vs hvs (by omega) (Nat.le_trans hB hfa.size) (fun b hb => ⟨Nat.lt_of_lt_of_le (hT b hb).1 hfa.size, (hT b hb).2⟩) (s1.fr (fun b hb => (hT b hb).1) hfa) ?_
    exact own_fr ho hfa (fun _ _ h => h)
  have IR : Hid (∀ (ob : Obj) (w2 : World) (V1 : Option Addr) (v1 : Nat), Fr (fun b => (Value.slice V (letS vs).length vc).ownBlock = some b) ((w.alloc ob).drew) w2 →
      w2.ownsRow B 9 1 (.slice V1 (letS (addV vs l)).length v1) (letS (addV vs l)).length ((letS (addV vs l)).map S) →
      ((Value.slice V1 (letS (addV vs l)).length v1).ownBlock = (Value.slice V (letS vs).length vc).ownBlock ∨ ∀ b, (Value.slice V1 (letS (addV vs l)).length v1).ownBlock = some b → ((w.alloc ob).drew).heap.size ≤ b) →
      Calls Tryz.prog 65 #[.agg #[S r.atom, .slice A2 r.kids.len c2], .slice V1 (letS (addV vs l)).length v1] w2 fun e w3 => AddS B (addV vs (.n f l r)) w (.slice V (letS vs).length vc) e w3 ∧ Fr (fun b => (Value.slice V (letS vs).length vc).ownBlock = some b) ((w.alloc ob).drew) w3) := by
    intro ob w2 V1 v1 hf hw hloc
    have hfw : Fr (fun b => (Value.slice V (letS vs).length vc).ownBlock = some b) w w2 := (((Fr.refl _ w).alloc ob).drew).trans hf
    have hsz : w.heap.size ≤ ((w.alloc ob).drew).heap.size := by show w.heap.size ≤ (w.alloc ob).heap.size; simp
    refine (ihr w2 A2 c2 T B V1 v1 (addV vs l) (addV_lt l vs hvs hlr.1) (by omega) (Nat.le_trans hB hfw.size) (fun b hb => ⟨Nat.lt_of_lt_of_le (hT b hb).1 hfw.size, fun e => ?_⟩) ?_ hw).mono ?_
    · rcases hloc with h1 | h1
      · exact (hT b hb).2 (h1 ▸ e)
      · have := h1 b e; have := (hT b hb).1; omega
    · exact s2.mono (fun _ h => h) (fun b hb => hfw.block b (hT b hb).1 (hT b hb).2)
    · rintro e w3 ⟨A3, c3, rfl, g1, g2, g3⟩
      refine ⟨⟨A3, c3, rfl, hfw.then_ g1 (fun i hi e => ?_), g2, ?_⟩, hf.then_ g1 (fun i hi e => ?_)⟩
      · rcases hloc with h1 | h1
        · exact h1 ▸ e
        · have := h1 i e; omega
      · rcases g3 with g3 | g3
        · rcases hloc with h1 | h1
          · exact .inl (g3.trans h1)
          · exact .inr (fun b hb => by have := h1 b (g3 ▸ hb); omega)
        · exact .inr (fun b hb => Nat.le_trans hfw.size (g3 b hb))
      · rcases hloc with h1 | h1
        · exact h1 ▸ e
        · have := h1 i e; omega
  clear ihl ihr h q0 q1 q2 q3 q4 q5 s0 s1 s2 hlen2 hgv hbv
  obtain ⟨p1, p2, p3, p4, p5, p6, p7⟩ := CELLS.out _ (Fr.refl _ _)
  have hno : Hid (∀ w' : World, Fr (fun b => (Value.slice V (letS vs).length vc).ownBlock = some b) ((w.alloc (.cells #[S [], .slice (some ⟨g, o, none⟩) 3 c] 46)).drew) w' → Fr (fun b => (Value.slice V (letS vs).length vc).ownBlock = some b) (w.alloc (.cells #[S [], .slice (some ⟨g, o, none⟩) 3 c] 46)) w') :=
    fun w' hf => ((Fr.refl _ _).drew).trans hf
  clear ho hown b0
  generalize (letS vs).length = k at *
  go_enter Tryz.func65, Tryz.ntmps65
  go_wp2_with fail
  go_region_held3 (fun w' => w'.cell? ⟨w.heap.size, 1, none⟩ = some (.slice (some ⟨g, o, none⟩) 3 c) ∧ w'.cell? ⟨g, o + 2, none⟩ = some (S l.atom) ∧ w'.cell? ⟨g, o + 3, none⟩ = some (.slice A1 l.kids.len c1) ∧ w'.cell? ⟨g, o + 4, none⟩ = some (S r.atom) ∧ w'.cell? ⟨g, o + 5, none⟩ = some (.slice A2 r.kids.len c2)) (go_keep)
    (first | (go_at_call 65; ((with_reducible refine (IL.out _).mono ?_); rintro e w2 ⟨V1, v1, rfl, g1, g2, g3⟩; obtain ⟨d1, d2, d3, d4, d5, d6, d7⟩ := CELLS.out w2 (hno.out w2 g1))) | (go_at_call 65; ((with_reducible refine (IR.out _ _ V1 v1 g1 g2 g3).mono ?_); rintro e w3 ⟨⟨V2, v2, rfl, k1, k2, k3⟩, k4⟩; obtain ⟨f1, f2, f3, f4, f5, f6, f7⟩ := CELLS.out w3 (hno.out w3 k4))))
  go_wp2_with fail
  go_ret
  exact ⟨V2, v2, rfl, k1, k2, k3⟩

theorem sv_any (t : Ty) : t.lets → SvSaid t := by
  induction t with
  | v n => exact fun h => sv_var n h
  | o => exact fun _ => sv_o
  | n f l r ihl ihr => exact fun h => sv_n f l r h (ihl h.1) (ihr h.2)
end Go.Proofs.YtloecimlimoanaaGreatDoor
