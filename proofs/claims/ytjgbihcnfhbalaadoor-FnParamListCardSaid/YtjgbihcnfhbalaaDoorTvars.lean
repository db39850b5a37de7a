import Derived.Test.YtjgbihcnfhbalaaDoorMark
import Derived.Test.YtjgbihcnfhbalaaDoorVars
import Derived.Test.YtjgbihcnfhbalaaDoorLaw3
import Derived.Test.YtjgbihcnfhbalaaDoorSvars
namespace Go.Proofs.YtjgbihcnfhbalaaDoor
open Go.RowKit Go.ChangeMaps

def AnsVars (s : List UInt8) (w : World) (e : Ending) (w' : World) : Prop :=
  ∃ V vc b xs, e = .returned (.tuple #[.slice V xs.length vc, .bool b]) ∧ w'.ownsRow w.heap.size 9 1 (.slice V xs.length vc) xs.length (xs.map S) ∧ Fr No w w' ∧
    ((∃ t, Ty.Is s t ∧ xs = letS (addV [] t) ∧ b = true) ∨ ((∀ t, ¬ Ty.Is s t) ∧ xs = [] ∧ b = false))

theorem Pool.node_blk {w : World} {q m : Nat} {ps : List Nat} {D : List Ty} (h : Pool w q m ps D) {p : Nat} (hp : p ∈ ps) : ∃ cs, Blk w p 134 cs := by
  obtain ⟨i, hi⟩ := List.mem_iff_getElem?.1 hp
  have hl : i < D.length := by rw [← h.len]; exact (List.getElem?_eq_some_iff.1 hi).1
  obtain ⟨a, b, hb, _⟩ := h.node i _ p (List.getElem?_eq_getElem hl) hi
  exact ⟨_, hb⟩

theorem Pool.apart {w : World} {q m B : Nat} {ps : List Nat} {D : List Ty} {v : Value} {n : Nat} {xs : List Value} (h : Pool w q m ps D) (ho : w.ownsRow B 9 1 v n xs) :
    ∀ b, v.ownBlock = some b → q ≠ b ∧ m ≠ b ∧ ∀ p ∈ ps, p ≠ b := by
  intro b hb
  rcases ho.2 with ⟨hv, _⟩ | ⟨g, cap, cur, hv, _, hg, _⟩
  · rw [hv] at hb; cases hb
  · have hgb : g = b := by
      rw [hv] at hb
      injection hb
    subst hgb
    refine ⟨?_, ?_, ?_⟩
    · rintro rfl
      have := hg.symm.trans h.head
      simp at this
    · rintro rfl
      obtain ⟨f, ⟨es, clk, hm, _⟩, _⟩ := h.map
      have := hg.symm.trans hm
      simp at this
    · rintro p hp rfl
      obtain ⟨cs, hc⟩ := h.node_blk hp
      have := hg.symm.trans hc
      simp at this

theorem rows_apart {w : World} {B B' n n' : Nat} {v v' : Value} {xs xs' : List Value} (h : w.ownsRow B 9 1 v n xs) (h' : w.ownsRow B' 72 1 v' n' xs') :
    ∀ b, v'.ownBlock = some b → v.ownBlock ≠ some b := by
  intro b hb hb'
  rcases h.2 with ⟨hv, _⟩ | ⟨g, cap, cur, hv, _, hg, _⟩
  · rw [hv] at hb'; cases hb'
  · rcases h'.2 with ⟨hv', _⟩ | ⟨g', cap', cur', hv', _, hg', _⟩
    · rw [hv'] at hb; cases hb
    · rw [hv] at hb'
      rw [hv'] at hb
      injection hb with hb
      injection hb' with hb'
      simp only at hb hb'
      subst hb
      subst hb'
      have := hg.symm.trans hg'
      simp at this

/-- what the loop keeps when it has written j names -/
def Loop (w : World) (q m : Nat) (ps : List Nat) (D : List Ty) (B2 : Nat) (A : Option Addr) (c : Nat) (xs vs : List Nat) (j : Nat) (V : Value) (wr : World) : Prop :=
  Pool wr q m ps D ∧ wr.ownsRow w.heap.size 9 1 V j ((letS (vs.take j)).map S) ∧ wr.ownsRow B2 72 1 (.slice A xs.length c) xs.length (xs.map Ptr) ∧ Fr No w wr

theorem Loop.more {w : World} {q m : Nat} {ps : List Nat} {D : List Ty} {B2 : Nat} {A : Option Addr} {c : Nat} {xs vs : List Nat} {j n k : Nat} {V V' : Value} {wr w2 : World} {o : Obj}
    (h : Loop w q m ps D B2 A c xs vs j V wr) (hn : vs[j]? = some n) (ho : w2.ownsRow w.heap.size 9 1 V' (j + 1) ((letS (vs.take j)).map S ++ [S [Ty.letter n]])) (hg : ((wr.drewN k).alloc o).grownBy w2 V.ownBlock) :
    Loop w q m ps D B2 A c xs vs (j + 1) V' w2 := by
  obtain ⟨h1, h2, h3, h4⟩ := h
  have hf : Fr (fun b => V.ownBlock = some b) wr w2 := (((Fr.refl _ wr).drewN k).alloc o).grown hg (fun i hi => .inl hi)
  refine ⟨h1.fr hf ?_ ?_ ?_, ?_, ?_, ?_⟩
  · intro e; exact (h1.apart h2 _ e).1 rfl
  · intro e; exact (h1.apart h2 _ e).2.1 rfl
  · intro p hp e; exact (h1.apart h2 _ e).2.2 p hp rfl
  · rw [List.take_add_one, hn]
    simpa [letS] using ho
  · exact own_fr h3 hf (fun b hb => rows_apart h2 h3 b hb)
  · exact h4.then_ hf (fun i hi e => by have := (h2.lt i e).1; omega)


set_option maxRecDepth 100000 in
set_option maxHeartbeats 1000000 in
theorem implVars (w : World) (s : List UInt8) (hs : s.length ≤ maxLen) :
    Calls Tryd.prog 51 #[S s] w fun e w' => AnsVars s w e w' := by
  go_enter Tryd.func51, Tryd.ntmps51
  go_wp2_with fail
  refine (newPool_any _).mono ?_
  rintro e w1 ⟨rfl, rfl⟩
  have h00 : w.heap.size < (w.alloc (.cells #[] 9)).heap.size := by simp
  have ho0 : (w.alloc (.cells #[] 9)).ownsRow w.heap.size 9 1 (.slice (some ⟨w.heap.size, 0, none⟩) 0 0) 0 [] :=
    ⟨rfl, .inr ⟨w.heap.size, 0, #[], rfl, Nat.le_refl _, heap_alloc_new w _, Nat.le_refl _, Nat.zero_le _, rfl, rfl⟩⟩
  have hf00 : Fr No w (w.alloc (.cells #[] 9)) := (Fr.refl _ _).alloc _
  generalize w.alloc (.cells #[] 9) = w0 at h00 ho0 hf00 ⊢
  have hP := pool_start w0
  have hf0 : Fr No w0 ((w0.alloc (.map #[] 0)).alloc (.cells #[.map (some w0.heap.size)] 163)) := ((Fr.refl _ _).alloc _).alloc _
  generalize (w0.alloc (.map #[] 0)).alloc (.cells #[.map (some w0.heap.size)] 163) = w1 at hP hf0 ⊢
  have HO1 := Lib.hid ho0
  have HF0 := Lib.hid hf00
  clear ho0 hf00
  go_wp2_with fail
  refine (read_any w1 _ _ [] [] s 0 hP (by omega) hs).mono ?_
  rintro e w2 ⟨ps, D, hP2, hg, hf, hor⟩
  have hfr : Fr No w0 w2 := hf0.then_ hf (fun i hi e => by unfold One at e; omega)
  have HO := Lib.hid (own_fr HO1.out hfr (fun _ _ h => h))
  have HF := Lib.hid (HF0.out.trans hfr)
  clear hg hf hfr hf0 HO1 HF0 hP
  rcases hor with ⟨t, p, hi, hh, he⟩ | ⟨hno, he⟩
  · obtain rfl := he
    rw [Ty.shift_zero] at hh
    have hlets := hi.2.1
    have hsz := hi.2.2
    have VR : Hid (Calls Tryd.prog 86 #[Ptr p] w2 fun e w' => AddPost w2.heap.size (w0.heap.size + 1) w0.heap.size ps D (addV [] t) w2 e w') := vars_any w2 _ _ ps D t p hP2 hh (by omega)
    have hvl : (addV [] t).length ≤ 40 := by have := addV_len t []; simp at this; omega
    have hv25 := addV_lt t [] (by simp) hlets
    have HI := Lib.hid hi
    go_wp2_with fail
    refine VR.out.mono ?_
    rintro e w3 ⟨A, xs, c, rfl, hP3, hb3, ho3, hv3⟩
    have hf3 : Fr No w2 w3 := Fr.of_below hb3 (Nat.le_refl _) _
    have HL : Hid (Loop w (w0.heap.size + 1) w0.heap.size ps D w2.heap.size A c xs (addV [] t) 0 (.slice (some ⟨w.heap.size, 0, none⟩) 0 0) w3) := ⟨hP3, own_fr HO.out hf3 (fun _ _ h => h), ho3, HF.out.trans hf3⟩
    have HX : Hid (∀ wr V j, Loop w (w0.heap.size + 1) w0.heap.size ps D w2.heap.size A c xs (addV [] t) j V wr → PSl wr A xs) := fun wr V j h => PSl.of_own h.1 hv3 h.2.2.1
    have HV3 := Lib.hid hv3
    have hxl : xs.length = (addV [] t).length := hv3.1
    have hxl' : (xs.length : Int) ≤ 40 := by omega
    have HXL := Lib.hid hxl
    have HV25 := Lib.hid hv25
    have FIN : Hid (∀ wr V, Loop w (w0.heap.size + 1) w0.heap.size ps D w2.heap.size A c xs (addV [] t) xs.length V wr → AnsVars s w (.returned (.tuple #[V, .bool true])) wr) := by
      intro wr V h
      obtain ⟨h1, h2, h3, h4⟩ := h
      rw [HXL.out, List.take_length] at h2
      obtain ⟨V', vc, rfl⟩ := own_form h2
      have hll : (addV [] t).length = (letS (addV [] t)).length := by simp [letS]
      rw [hll] at h2
      refine ⟨V', vc, true, letS (addV [] t), by rw [hll], h2, h4, .inl ⟨t, HI.out, rfl, rfl⟩⟩
    clear hP3 hb3 ho3 hv3 hf3 hv25 hxl hP2 hh hvl hi hlets hsz HO HF
    generalize addV [] t = vs at *
    generalize w0.heap.size + 1 = q at *
    generalize w0.heap.size = m at *
    generalize w2.heap.size = B2 at *
    go_wp2_with fail
    go_loopw [4, 18] (fun V u wr => ∃ (j : Nat), j ≤ xs.length ∧ u = .int .i64 j ∧ (∃ V0 vc, V = .slice V0 j vc) ∧ Loop w q m ps D B2 A c xs vs j V wr) (fun _ u _ => xs.length - (intOf u).toNat)
    case atStart => exact ⟨0, Nat.zero_le _, rfl, ⟨_, _, rfl⟩, HL.out⟩
    case round =>
      obtain ⟨j, hj, rfl, ⟨V, vc, rfl⟩, hL⟩ := hrel
      have HLJ := Lib.hid hL
      clear hL
      by_cases hlt : j < xs.length
      · obtain ⟨x, hxj⟩ : ∃ x, xs[j]? = some x := ⟨_, List.getElem?_eq_getElem hlt⟩
        obtain ⟨g, rfl, hc, cs, hcs⟩ := HX.out wr _ j HLJ.out j x hxj
        obtain ⟨n, hnj⟩ : ∃ n, vs[j]? = some n := ⟨_, List.getElem?_eq_getElem (by rw [← HXL.out]; exact hlt)⟩
        have hn25 : n < 25 := HV25.out n (List.mem_of_getElem? hnj)
        have hhx := HV3.out.2 j n x hnj hxj
        have TX : Hid (Calls Tryd.prog 87 #[Ptr x] wr fun e w' => e = .returned (S [Ty.letter n]) ∧ ∃ k, w' = wr.drewN k) := text_any q m ps D (.v n) hn25 (by simp [Ty.size]) wr x HLJ.out.1 hhx
        have HMORE : Hid (∀ V' w4 k o, w4.ownsRow w.heap.size 9 1 V' (j + 1) ((letS (vs.take j)).map S ++ [S [Ty.letter n]]) → ((wr.drewN k).alloc o).grownBy w4 (Value.slice V j vc).ownBlock → Loop w q m ps D B2 (some ⟨g, 0, none⟩) c xs vs (j + 1) V' w4) := fun V' w4 k o h1 h2 => HLJ.out.more hnj h1 h2
        clear hcs hnj hn25 hhx hxj
        generalize Ty.letter n = x' at *
        go_wp2_with fail
        refine TX.out.mono ?_
        rintro e w' ⟨rfl, k, rfl⟩
        obtain ⟨i0, hi0, hz0, hz1, hz2⟩ := info_parts info_str
        have HOA : Hid (∀ o : Obj, ((wr.drewN k).alloc o).ownsRow w.heap.size 9 1 (.slice V j vc) j ((letS (vs.take j)).map S)) := fun o => (own_fr HLJ.out.2.1 ((Fr.refl No wr).drewN k) (fun _ _ h => h)).alloc o
        have HC1 : Hid (∀ (i : Nat) (u : Value), [S [x']][i]? = some u → ((wr.drewN k).alloc (.cells #[S [x']] 9)).cell? ((⟨(wr.drewN k).heap.size, 0, none⟩ : Addr).add i) = some u) := cells_new (w := wr.drewN k) rfl [S [x']] 9
        have HC2 : Hid (∀ u ∈ [S [x']], u.oneCell' = true) := by
          intro u hu
          simp at hu
          rw [hu]; rfl
        have hB : w.heap.size ≤ wr.heap.size := HLJ.out.2.2.2.size
        have HC5 : Hid (∀ o : Obj, w.heap.size ≤ ((wr.drewN k).alloc o).heap.size) := fun o => by simp; omega
        have bnd : (j + 1) * 16 ≤ 140737488355328 := by omega
        have bnd2 : j + 1 ≤ maxLen := by unfold maxLen; omega
        have HM : Hid (∀ V' w4 o, w4.ownsRow w.heap.size 9 1 V' (j + 1) ((letS (vs.take j)).map S ++ [S [x']]) → ((wr.drewN k).alloc o).grownBy w4 (Value.slice V j vc).ownBlock → (∃ V0 vc', V' = .slice V0 (j + 1) vc') ∧ Loop w q m ps D B2 (some ⟨g, 0, none⟩) c xs vs (j + 1) V' w4) := fun V' w4 o h1 h2 => ⟨own_form h1, HMORE.out V' w4 k o h1 h2⟩
        clear HMORE HLJ TX hc
        generalize wr.drewN k = wv at *
        go_wp2_with (at_builtin; go_must (refine wpList_append_own_at _ rfl _ _ 37 rfl w.heap.size 9 i0 (.string ⟨#[]⟩) 1 16 Tryd.underlying37 hi0 hz0 hz1 hz2 rfl (by decide) _ j ((letS (vs.take j)).map S) rfl (HOA.out _) ⟨wv.heap.size, 0, none⟩ 1 1 [S [x']] rfl rfl HC1.out HC2.out bnd2 bnd (HC5.out _) ?_); intro v' w4 hown' hgrow _ _; have HF := Lib.hid (HM.out v' w4 _ hown' hgrow); clear hown' hgrow)
        go_round
        case rel => exact ⟨j + 1, by omega, by go_num, HF.out.1, HF.out.2⟩
        case measure => simp [intOf]; omega
      · have hjl : j = xs.length := by omega
        have HLJ' := Lib.hid (FIN.out _ _ (hjl ▸ HLJ.out))
        subst hjl
        go_wp2
        refine bodyPost_ret (v := .tuple #[.slice V xs.length vc, .bool true]) (by simp [results, Tryd.results51, go_sem]) rfl ?_
        exact HLJ'.out
  · obtain rfl := he
    have HN : Hid (∀ t, ¬ Ty.Is s t) := fun t h => hno _ h
    clear hno
    go_wp2_with fail
    refine bodyPost_ret (v := .tuple #[.slice (some ⟨w.heap.size, 0, none⟩) 0 0, .bool false]) (by simp [results, Tryd.results51, go_sem]) rfl ?_
    exact ⟨some ⟨w.heap.size, 0, none⟩, 0, false, [], rfl, HO.out, HF.out, .inr ⟨HN.out, rfl, rfl⟩⟩
end Go.Proofs.YtjgbihcnfhbalaaDoor
