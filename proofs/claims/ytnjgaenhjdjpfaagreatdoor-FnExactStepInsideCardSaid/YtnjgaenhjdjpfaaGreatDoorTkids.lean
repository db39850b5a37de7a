/- TermKids of the model. · termText of the program. · TermKids of the program. · The law TermKids. -/
import Derived.Test.YtnjgaenhjdjpfaaGreatDoorStext
import Derived.Test.YtnjgaenhjdjpfaaGreatDoorS2free
import Derived.Test.YtnjgaenhjdjpfaaGreatDoorTfree
import Derived.Test.YtnjgaenhjdjpfaaGreatDoorShelf
import Derived.BigQuiet
import Derived.Deep.AppendLies
import Derived.Test.YtnjgaenhjdjpfaaGreatDoorS2term
import Derived.Test.YtnjgaenhjdjpfaaGreatDoorMark
/- TermKids of the model. -/
namespace Go.Proofs.YtnjgaenhjdjpfaaGreatDoor
open Go.RowKit Go.ChangeMaps

theorem cnt_tms : ∀ (f : Fo) (sh : Option (List Bool)), f.wf → isTms sh f = true → f.cnt ≤ 2 * f.size ∧ (sh = none → f.cnt + 1 ≤ 2 * f.size) := by
  intro f
  induction f with
  | nil => intro sh _ h; exact ⟨Nat.le_refl _, fun e => by subst e; cases h⟩
  | cons a k r ihk ihr =>
    intro sh hw h
    match sh, h with
    | none, h =>
      simp only [isTms, Bool.and_eq_true] at h
      obtain ⟨h1, h2⟩ := h
      have hs : shapeOf a ≠ [] := by intro e; rw [e] at h1; cases h1
      have hh := (shape_head hs).1
      obtain rfl := hw.1 hh
      have := (ihr _ hw.2.2 h2).1
      simp only [Fo.cnt, Fo.size, if_neg hh]
      omega
    | some (true :: sh), h =>
      simp only [isTms, Bool.and_eq_true] at h
      have h2 := (ihr _ hw.2.2 h.2).1
      by_cases ha : a = []
      · subst ha
        simp only [if_true] at h
        have := (ihk none hw.2.1 h.1).2 rfl
        simp only [Fo.cnt, Fo.size, if_true]
        exact ⟨by omega, fun e => by cases e⟩
      · obtain rfl := hw.1 ha
        simp only [Fo.cnt, Fo.size, if_neg ha]
        exact ⟨by omega, fun e => by cases e⟩
    | some (false :: sh), h =>
      simp only [isTms, Bool.and_eq_true] at h
      have hn := (name_bytes h.1).1
      have h2 := (ihr _ hw.2.2 h.2).1
      obtain rfl := hw.1 hn
      simp only [Fo.cnt, Fo.size, if_neg hn]
      exact ⟨by omega, fun e => by cases e⟩
    | some [], h => simp [isTms] at h

theorem cnt_nth {f : Fo} {j : Nat} {a : List UInt8} {k : Fo} (h : f.nth j = some (a, k)) : k.cnt < f.cnt := Fo.nth_cnt f j a k h

/-- the texts of the parts that are terms, as the model takes them -/
def skU (h : List UInt8) : Fo → Nat → List (List UInt8)
  | .nil, _ => []
  | .cons a k r, i => (if innB h i = true then [treeText a k] else []) ++ skU h r (i + 1)

def kidL (a : List UInt8) (k : Fo) : List (List UInt8) := match a, k with
  | [], .cons h _ r => skU h r 1
  | _, _ => []

theorem sk_step {f : Fo} {j i : Nat} {a h : List UInt8} {k : Fo} (e : f.nth j = some (a, k)) : skU h (f.from_ j) i = (if innB h i = true then [treeText a k] else []) ++ skU h (f.from_ (j + 1)) (i + 1) := by
  rw [Fo.from_nth f j a k e]
  rfl

theorem sk_len (h : List UInt8) : ∀ (f : Fo) (i : Nat), (skU h f i).length ≤ f.len
  | .nil, _ => Nat.le_refl _
  | .cons a k r, i => by
    have := sk_len h r (i + 1)
    simp only [skU, List.length_append, Fo.len]
    split <;> simp <;> omega

def KidsIs (s : List UInt8) (xs : List (List UInt8)) (b : Bool) : Prop := (∃ a k, TmOk s a k ∧ xs = kidL a k ∧ b = true) ∨ ((∀ a k, ¬ TmOk s a k) ∧ xs = [] ∧ b = false)

theorem KidsIs.one {s : List UInt8} {xs xs' : List (List UInt8)} {b b' : Bool} (h : KidsIs s xs b) (h' : KidsIs s xs' b') : xs' = xs ∧ b' = b := by
  rcases h with ⟨a, k, i1, rfl, rfl⟩ | ⟨n1, rfl, rfl⟩ <;> rcases h' with ⟨a', k', i2, rfl, rfl⟩ | ⟨n2, rfl, rfl⟩
  · obtain ⟨rfl, rfl⟩ := i1.unique i2
    exact ⟨rfl, rfl⟩
  · exact absurd i1 (n2 a k)
  · exact absurd i2 (n1 a' k')
  · exact ⟨rfl, rfl⟩

theorem kidL_len {s a : List UInt8} {k : Fo} (h : TmOk s a k) : (kidL a k).length ≤ 3 := by
  unfold kidL
  split
  · rename_i g k0 r
    have htm := h.2.2.1
    simp only [isTm, if_true, isTms, Bool.and_eq_true] at htm
    have h1 := isTms_len _ _ htm.2
    have h2 := sk_len g r 1
    have h3 := shape_short g
    omega
  · simp

theorem KidsIs.len {s : List UInt8} {xs : List (List UInt8)} {b : Bool} (h : KidsIs s xs b) : xs.length ≤ 900 := by
  rcases h with ⟨a, k, i1, rfl, rfl⟩ | ⟨n1, rfl, rfl⟩
  · have := kidL_len i1
    omega
  · simp

def AnsKids (s : List UInt8) (w : World) (e : Ending) (w' : World) : Prop :=
  ∃ V vc b xs, e = .returned (.tuple #[.slice V xs.length vc, .bool b]) ∧ w'.ownsRow w.heap.size 9 1 (.slice V xs.length vc) xs.length (xs.map S) ∧ Fr No w w' ∧ KidsIs s xs b

end Go.Proofs.YtnjgaenhjdjpfaaGreatDoor

/- termText of the program. -/
namespace Go.Proofs.YtnjgaenhjdjpfaaGreatDoor
open Go.RowKit Go.ChangeMaps

theorem spj_join (l : List (List UInt8)) : Lib.join l [32] = spj l := by
  cases l with
  | nil => rfl
  | cons x r => rw [Lib.join_cons]; rfl

theorem join_own (w : World) (B : Nat) (A : Option Addr) (c : Nat) (ys : List (List UInt8)) (ho : w.ownsRow B 9 1 (.slice A ys.length c) ys.length (ys.map S)) (hne : ys ≠ []) (hn : ys.length ≤ 900) (hlen : (spj ys).length ≤ 100000) :
    Calls Tryz.prog 58 #[.slice A ys.length c, .string ⟨#[32]⟩] w fun e w' => e = .returned (S (spj ys)) ∧ Fr No w w' := by
  have hpos : 0 < ys.length := List.length_pos_iff.2 hne
  rcases ho.2 with ⟨_, h0⟩ | ⟨g, cap, cur, hv, hbg, hg, hnc, hcm, hcs, htake⟩
  · omega
  · injection hv with e1 e2 e3
    subst e1; subst e3
    have hs := SSl.of_own ho
    have hlt := (ho.lt g rfl).2
    have e4 : (ys.map fun y => (ByteArray.mk y.toArray)).length = ys.length := by simp
    have e5 : (ys.map fun y => (ByteArray.mk y.toArray)).map (·.data.toList) = ys := by simp [Function.comp_def]
    have := Tryz.strings_Join g 0 c (ys.map fun y => ByteArray.mk y.toArray) ⟨#[32]⟩ w (fun j x hj => by
      rw [List.getElem?_map] at hj
      obtain ⟨y, hy, rfl⟩ := Option.map_eq_some_iff.1 hj
      obtain ⟨g', o', e, hc⟩ := hs j y hy
      simp only [Option.some.injEq, Addr.mk.injEq, and_true] at e
      obtain ⟨rfl, rfl⟩ := e
      exact hc) hlt (by rw [e4]; omega) (by rw [e4]; exact hnc) (by rw [e5]; show (Lib.join ys [32]).length ≤ _; rw [spj_join]; omega)
    rw [e4, e5] at this
    refine this.mono ?_
    rintro e w' ⟨rfl, hb⟩
    refine ⟨?_, Fr.of_below hb (Nat.le_refl _) _⟩
    show Ending.returned (.string ⟨(Lib.join ys [32]).toArray⟩) = _
    rw [spj_join]

theorem tx_step {f : Ts} {j i : Nat} {h a ph pa : List UInt8} {d : Nat} {k : Ts} {bs : List (List UInt8)} (e : f.nth j = some (h, a, d, k)) : txL (f.from_ j) bs ph pa i = txN (insB bs ph pa i) h a d k :: txL (f.from_ (j + 1)) bs ph pa (i + 1) := by
  rw [Ts.from_nth f j h a d k e]
  rfl

theorem tok_at : ∀ (f : Ts) (j i : Nat) (h a ph pa : List UInt8) (d : Nat) (k : Ts) (bs : List (List UInt8)), Tok f bs ph pa i → f.nth j = some (h, a, d, k) → TokN (insB bs ph pa (i + j)) h a d k
  | .nil, _, _, _, _, _, _, _, _, _, _, e => by cases e
  | .cons h a d k r, 0, i, h', a', ph, pa, d', k', bs, ht, e => by
    simp only [Ts.nth, Option.some.injEq, Prod.mk.injEq] at e
    obtain ⟨rfl, rfl, rfl, rfl⟩ := e
    exact ht.1
  | .cons h a d k r, j + 1, i, h', a', ph, pa, d', k', bs, ht, e => by
    have := tok_at r j (i + 1) h' a' ph pa d' k' bs ht.2 e
    rw [show i + (j + 1) = i + 1 + j by omega]
    exact this

theorem ins_len (bs : List (List UInt8)) (h b : List UInt8) (i : Nat) : (insB bs h b i).length ≤ bs.length + 1 := by
  unfold insB
  split <;> simp

theorem txL_len : ∀ (f : Ts) (bs : List (List UInt8)) (h a : List UInt8) (i : Nat), (txL f bs h a i).length = f.len
  | .nil, _, _, _, _ => rfl
  | .cons h' a' d k r, bs, h, a, i => by simp [txL, Ts.len, txL_len r]

def TxSaid (k : Ts) : Prop := ∀ (h a : List UInt8) (d p : Nat) (w : World) (T : Nat → Prop) (A : Option Addr) (c : Nat) (bs : List (List UInt8)), TokN bs h a d k → (txN bs h a d k).length ≤ 10000 → bs.length + k.size ≤ 800 → (∀ b, T b → b < w.heap.size) → Tm w T p h a d k → NSl w A bs →
  Calls Tryz.prog 33 #[Ptr p, .slice A bs.length c] w fun e w' => e = .returned (S (txN bs h a d k)) ∧ Fr No w w'

set_option maxRecDepth 100000 in
set_option maxHeartbeats 2000000 in
theorem tx_node (k : Ts) (hN : ∀ h a d k' j, k.nth j = some (h, a, d, k') → TxSaid k') : TxSaid k := by
  intro h a d p w T A c bs htok hlen hsz hT ht hbs
  have HN := Lib.hid hN
  have HTOK := Lib.hid htok
  have HT := Lib.hid hT
  have HBS := Lib.hid hbs
  clear hN
  obtain ⟨hp, AK, ck, hb, hsl⟩ := ht.open_
  have BI := Lib.hid (bound_is w p h a _ _ _ hb)
  have c0 : w.cell? ⟨p, 0, none⟩ = some (S h) := (hb.cell 0).trans rfl
  have c1 : w.cell? ⟨p, 1, none⟩ = some (S a) := (hb.cell 1).trans rfl
  have c2 : w.cell? ⟨p, 2, none⟩ = some (.int .i64 d) := (hb.cell 2).trans rfl
  have c3 : w.cell? ⟨p, 3, none⟩ = some (.slice AK k.len ck) := (hb.cell 3).trans rfl
  have hlt := hb.lt
  have HBK := Lib.hid hb
  have HSL := Lib.hid hsl
  clear hb ht hsl
  rcases hq : boundB h a with _ | _
  · have hnb : ¬ (h = hName ∧ a = []) := by
      rintro ⟨rfl, rfl⟩
      cases hq
    rw [hq] at BI
    by_cases hk0 : k.len = 0
    · have HR : Hid (txN bs h a d k = a) := by
        refine Lib.hid ?_
        unfold txN
        rw [if_neg hnb, if_pos hk0]
      rw [HR.out]
      rw [hk0] at c3
      clear hq hnb HR hlen hbs htok
      generalize bs.length = bl at *
      go_enter Tryz.func33, Tryz.ntmps33
      go_wp2_with fail
      refine BI.out.mono ?_
      rintro e w1 ⟨rfl, rfl⟩
      go_wp2_with fail
      go_ret
      exact ⟨rfl, Fr.refl _ _⟩
    · have HRR : Hid (txN bs h a d k = 40 :: (spj (h :: ((if bindsB h then [a] else []) ++ txL k bs h a 0)) ++ [41])) := by
        refine Lib.hid ?_
        unfold txN
        rw [if_neg hnb, if_neg hk0]
      obtain ⟨all, HALL⟩ : ∃ z, Hid (h :: ((if bindsB h then [a] else []) ++ txL k bs h a 0) = z) := ⟨_, rfl⟩
      rw [HRR.out, HALL.out] at hlen ⊢
      have hkl := Ts.len_size k
      have hk6 : (k.len : Int) ≤ 800 := by omega
      have HAL : Hid (all.length ≤ 900) := by
        have h1 := txL_len k bs h a 0
        rw [← HALL.out]
        refine Lib.hid ?_
        simp only [List.length_cons, List.length_append]
        split <;> simp <;> omega
      have hkn : ((k.len : Int) == 0) = false := beq_eq_false_iff_ne.2 (by omega)
      clear hq hnb HRR hbs htok
      rcases hbb : bindsB h with _ | _
      · have HB := Lib.hid hbb
        have HOS : Hid ((w.alloc (.cells #[S h] 9)).ownsRow w.heap.size 9 1 (.slice (some ⟨w.heap.size, 0, none⟩) 1 1) 1 [S h]) := ⟨rfl, .inr ⟨w.heap.size, 1, #[S h], rfl, Nat.le_refl _, heap_alloc_new w _, Nat.le_refl _, by unfold maxLen; omega, rfl, rfl⟩⟩
        have START0 : Hid ([h] ++ txL (k.from_ 0) bs h a 0 = all) := by
          refine Lib.hid ?_
          rw [Ts.from_zero, ← HALL.out, hbb]
          simp
        clear hbb
        obtain ⟨bn, hbn⟩ : ∃ z, z = bs.length := ⟨_, rfl⟩
        go_enter Tryz.func33, Tryz.ntmps33
        go_wp2_with fail
        refine BI.out.mono ?_
        rintro e w1 ⟨rfl, rfl⟩
        go_wp2_with fail
        refine (binds_any h false HB.out _).mono ?_
        rintro e w1 ⟨rfl, rfl⟩
        go_wp2_with fail
        go_loopw [5, 53] (fun v i wr => ∃ (j : Nat) (l' : List (List UInt8)) (A' : Option Addr) (c' : Nat), j ≤ k.len ∧ i = .int .i64 j ∧ v = .slice A' l'.length c' ∧ l' ++ txL (k.from_ j) bs h a j = all ∧ Fr No w wr ∧
            wr.ownsRow w.heap.size 9 1 (.slice A' l'.length c') l'.length (l'.map S)) (fun _ i _ => k.len - (intOf i).toNat)
        case atStart => exact ⟨0, [h], _, 1, Nat.zero_le _, rfl, rfl, START0.out, (Fr.refl _ _).alloc _, HOS.out⟩
        case round =>
          obtain ⟨j, l', A', c', hj, rfl, rfl, hsum, hfr, hown⟩ := hrel
          have HS := Lib.hid hsum
          have HW := Lib.hid hown
          have HFR := Lib.hid hfr
          have hll : l'.length ≤ 900 := by
            have h1 := congrArg List.length hsum
            have := HAL.out
            simp only [List.length_append] at h1
            omega
          clear hsum hown hfr
          by_cases hlt2 : j < k.len
          · obtain ⟨g, o, q, h', a', d', k', rfl, hg, hn, hc, htm⟩ := (HSL.out.mono (T' := T) (fun _ h => h) (fun b hb => HFR.out.block b (HT.out b hb) (fun h => h))).at_ hlt2
            have hst := tx_step (i := j) (ph := h) (pa := a) (bs := bs) hn
            have hz := Ts.nth_size hn
            have htk := tok_at k j 0 h' a' h a d' k' bs HTOK.out.2 hn
            rw [Nat.zero_add] at htk
            have hlg := block_lt hc
            have hjk : j ≤ 1000 := by omega
            have hil := ins_len bs h a j
            obtain ⟨tx, HTX⟩ : ∃ z, Hid (txN (insB bs h a j) h' a' d' k' = z) := ⟨_, rfl⟩
            have HTT : Hid ((l' ++ [tx]) ++ txL (k.from_ (j + 1)) bs h a (j + 1) = all) := by
              have := HS.out
              rw [hst, HTX.out] at this
              refine Lib.hid ?_
              simpa using this
            have htl : tx.length ≤ 10000 := by
              have h1 : tx ∈ all := by rw [← HTT.out]; simp
              have := spj_le h1
              simp only [List.length_cons, List.length_append, List.length_nil] at hlen
              omega
            have HBW : Hid (∀ w', Fr No wr w' → w'.cell? ⟨p, 0, none⟩ = some (S h) ∧ w'.cell? ⟨p, 1, none⟩ = some (S a) ∧ p < w'.heap.size) := fun w' hf => by
              have h1 := (HBK.out.fr HFR.out (fun h => h)).fr hf (fun h => h)
              exact ⟨(h1.cell 0).trans rfl, (h1.cell 1).trans rfl, h1.lt⟩
            have INS : Hid (∀ w', w' = wr.drew → Calls Tryz.prog 57 #[.slice A bs.length c, S h, S a, .int .i64 j] w' fun e w1 => ∃ Z zc, e = .returned (.slice Z (insB bs h a j).length zc) ∧ Fr No wr w1 ∧ NSl w1 Z (insB bs h a j)) := by
              rintro w' rfl
              have hfd : Fr No wr wr.drew := (Fr.refl _ _).drew
              refine (inside_any wr.drew A bs c bs.length rfl h a j (HBS.out.fr (HFR.out.trans hfd) (fun _ _ _ h => h)) (by omega) hjk).mono ?_
              rintro e w1 ⟨Z, zc, rfl, z1, z2, _⟩
              exact ⟨Z, zc, rfl, hfd.trans z1, z2⟩
            have TXC : Hid (∀ (w1 : World) (Z : Option Addr) (zc : Nat), Fr No wr w1 → NSl w1 Z (insB bs h a j) → Calls Tryz.prog 33 #[Ptr q, .slice Z (insB bs h a j).length zc] w1 fun e w2 => e = .returned (S tx) ∧ Fr No wr w2) := by
              intro w1 Z zc hf hz1
              refine (HN.out h' a' d' k' j hn h' a' d' q w1 T Z zc _ htk (by rw [HTX.out]; exact htl) (by omega) (fun b hb => Nat.lt_of_lt_of_le (HT.out b hb) (HFR.out.trans hf).size) (htm.mono (fun _ h => h) (fun b hb => hf.block b (Nat.lt_of_lt_of_le (HT.out b hb) HFR.out.size) (fun h => h))) hz1).mono ?_
              rintro e w2 ⟨rfl, hf2⟩
              exact ⟨by rw [HTX.out], hf.trans hf2⟩
            obtain ⟨i0, hi0, hz0, hz1, hz2⟩ := info_parts info_str
            have HOWA : Hid (∀ w2, Fr No wr w2 → ∀ ob : Obj, (w2.alloc ob).ownsRow w.heap.size 9 1 (.slice A' l'.length c') l'.length (l'.map S)) := fun w2 hf ob => own_fr HW.out (hf.alloc ob) (fun _ _ h => h)
            have HNW : Hid (∀ w2 : World, ∀ (j : Nat) (u : Value), [S tx][j]? = some u → (w2.alloc (.cells #[S tx] 9)).cell? ((⟨w2.heap.size, 0, none⟩ : Addr).add j) = some u) := fun w2 => cells_new rfl [S tx] 9
            have HC2 : Hid (∀ u ∈ [S tx], u.oneCell' = true) := by
              intro u hu
              simp at hu
              rw [hu]; rfl
            have HBB : Hid (∀ w2, Fr No wr w2 → ∀ ob : Obj, w.heap.size ≤ (w2.alloc ob).heap.size) := fun w2 hf ob => Nat.le_trans HFR.out.size (hf.alloc ob).size
            have bnd : (l'.length + 1) * 16 ≤ 140737488355328 := by omega
            have bnd2 : l'.length + 1 ≤ maxLen := by unfold maxLen; omega
            have FINN : Hid (∀ w2, Fr No wr w2 → ∀ (ob : Obj) (g4 cap4 : Nat) (w4 : World), w4.ownsRow w.heap.size 9 1 (.slice (some ⟨g4, 0, none⟩) (l'.length + 1) cap4) (l'.length + 1) (l'.map S ++ [S tx]) → (w2.alloc ob).grownBy w4 (Value.slice A' l'.length c').ownBlock →
                w4.cell? ⟨p, 0, none⟩ = some (S h) ∧ w4.cell? ⟨p, 1, none⟩ = some (S a) ∧ Fr No w w4 ∧ w4.ownsRow w.heap.size 9 1 (.slice (some ⟨g4, 0, none⟩) (l' ++ [tx]).length cap4) (l' ++ [tx]).length ((l' ++ [tx]).map S)) := by
              intro w2 hf ob g4 cap4 w4 h2 h3
              have e1 : l'.map S ++ [S tx] = (l' ++ [tx]).map S := by simp
              have e2 : (l' ++ [tx]).length = l'.length + 1 := by simp
              rw [e1, ← e2] at h2
              have hfw : Fr No w w4 := (HFR.out.trans (hf.alloc ob)).grown h3 (fun b hb => .inr (HW.out.lt b hb).1)
              have hbw := HBK.out.fr hfw (fun h => h)
              exact ⟨(hbw.cell 0).trans rfl, (hbw.cell 1).trans rfl, hfw, h2⟩
            obtain ⟨b0, b1, bl⟩ := HBW.out wr (Fr.refl _ _)
            obtain ⟨ib, HIB⟩ : ∃ z, Hid ((insB bs h a j).length = z) := ⟨_, rfl⟩
            rw [HIB.out] at INS TXC
            clear hst hn hz htk htm htl hil
            go_wp2_with fail
            go_region_held3 (fun w' => w'.cell? ⟨p, 0, none⟩ = some (S h) ∧ w'.cell? ⟨p, 1, none⟩ = some (S a)) (go_keep)
              (first | (go_at_call 57; ((with_reducible refine (INS.out _ rfl).mono ?_); rintro e w1 ⟨Z, zc, rfl, z1, z2⟩; obtain ⟨d0, d1, dl⟩ := HBW.out w1 z1)) | (go_at_call 33; ((with_reducible refine (TXC.out _ _ _ z1 z2).mono ?_); rintro e w2 ⟨rfl, k1⟩; obtain ⟨e0, e1, el⟩ := HBW.out w2 k1)) | (refine step_append_lies _ (by rfl) _ _ _ (by rfl) w.heap.size 9 i0 (.string ⟨#[]⟩) 1 16 Tryz.underlying53 hi0 hz0 hz1 hz2 (by rfl) (by decide) (.slice A' l'.length c') l'.length (l'.map S) (by rfl) (HOWA.out _ k1 _) ⟨w2.heap.size, 0, none⟩ 1 1 [S tx] (by rfl) (by rfl) (HNW.out w2) HC2.out (by decide) bnd2 bnd (HBB.out _ k1 _) (w2.heap.size + 1) (by simp) ?_; intro g4 cap4 w4 hown4 hgrow hat hlt4; obtain ⟨f0, f1, f2, f3⟩ := FINN.out w2 k1 _ g4 cap4 w4 hown4 hgrow; have REL := Lib.hid (And.intro f2 f3)))
            go_wp2_with fail
            go_roundw
            case rel => exact ⟨j + 1, l' ++ [tx], some ⟨g4, 0, none⟩, cap4, by omega, by go_num, by simp, HTT.out, REL.out.1, REL.out.2⟩
            case measure => simp [intOf]; omega
          · have hjl : j = k.len := by omega
            have HE : Hid (l' = all) := by
              have := HS.out
              rw [hjl, Ts.from_len] at this
              refine Lib.hid ?_
              simpa [txL] using this
            have hle : (spj all).length ≤ 10000 := by
              simp only [List.length_cons, List.length_append, List.length_nil] at hlen
              omega
            have JO : Hid (Calls Tryz.prog 58 #[.slice A' l'.length c', .string ⟨#[32]⟩] wr fun e w' => e = .returned (S (spj all)) ∧ Fr No wr w') := by
              rw [← HE.out]
              refine join_own wr w.heap.size A' c' l' HW.out ?_ hll (by rw [HE.out]; omega)
              rw [HE.out, ← HALL.out]
              simp
            clear hjl
            go_wp2_with fail
            refine JO.out.mono ?_
            rintro e w1 ⟨rfl, hf1⟩
            go_wp2_with fail
            go_ret
            exact ⟨ret_str (by simp), HFR.out.trans hf1⟩
      · have HB := Lib.hid hbb
        have HOS : Hid ((w.alloc (.cells #[S h] 9)).ownsRow w.heap.size 9 1 (.slice (some ⟨w.heap.size, 0, none⟩) 1 1) 1 [S h]) := ⟨rfl, .inr ⟨w.heap.size, 1, #[S h], rfl, Nat.le_refl _, heap_alloc_new w _, Nat.le_refl _, by unfold maxLen; omega, rfl, rfl⟩⟩
        have START0 : Hid ([h, a] ++ txL (k.from_ 0) bs h a 0 = all) := by
          refine Lib.hid ?_
          rw [Ts.from_zero, ← HALL.out, hbb]
          simp
        clear hbb
        obtain ⟨bn, hbn⟩ : ∃ z, z = bs.length := ⟨_, rfl⟩
        obtain ⟨i0, hi0, hz0, hz1, hz2⟩ := info_parts info_str
        have HOA : Hid (∀ ob : Obj, ((w.alloc (.cells #[S h] 9)).alloc ob).ownsRow w.heap.size 9 1 (.slice (some ⟨w.heap.size, 0, none⟩) 1 1) 1 [S h]) := fun ob => HOS.out.alloc ob
        have HC1 : Hid (∀ (j : Nat) (u : Value), [S a][j]? = some u → ((w.alloc (.cells #[S h] 9)).alloc (.cells #[S a] 9)).cell? ((⟨w.heap.size + 1, 0, none⟩ : Addr).add j) = some u) := cells_new (w := w.alloc (.cells #[S h] 9)) (by simp) [S a] 9
        have HC2 : Hid (∀ u ∈ [S a], u.oneCell' = true) := by
          intro u hu
          simp at hu
          rw [hu]; rfl
        have HC5 : Hid (∀ ob : Obj, w.heap.size ≤ ((w.alloc (.cells #[S h] 9)).alloc ob).heap.size) := fun ob => by simp; omega
        have bnd : (1 + 1) * 16 ≤ 140737488355328 := by omega
        have bnd2 : 1 + 1 ≤ maxLen := by unfold maxLen; omega
        have PST : Hid (∀ (ob : Obj) (v' : Value) (w4 : World), w4.ownsRow w.heap.size 9 1 v' (1 + 1) ([S h] ++ [S a]) → ((w.alloc (.cells #[S h] 9)).alloc ob).grownBy w4 (Value.slice (some ⟨w.heap.size, 0, none⟩) 1 1).ownBlock →
            ∃ A' c', v' = .slice A' [h, a].length c' ∧ w4.cell? ⟨p, 0, none⟩ = some (S h) ∧ w4.cell? ⟨p, 1, none⟩ = some (S a) ∧ w4.cell? ⟨p, 3, none⟩ = some (.slice AK k.len ck) ∧ p < w4.heap.size ∧ Fr No w w4 ∧ w4.ownsRow w.heap.size 9 1 (.slice A' [h, a].length c') [h, a].length ([h, a].map S)) := by
          intro ob v' w4 h1 h2
          obtain ⟨A', c', rfl⟩ := own_form h1
          have hfw : Fr No w w4 := (((Fr.refl No w).alloc _).alloc ob).grown h2 (fun b hb => .inr (by simp only [Value.ownBlock, Option.some.injEq] at hb; omega))
          have hbw := HBK.out.fr hfw (fun h => h)
          exact ⟨A', c', rfl, (hbw.cell 0).trans rfl, (hbw.cell 1).trans rfl, (hbw.cell 3).trans rfl, hbw.lt, hfw, h1⟩
        go_enter Tryz.func33, Tryz.ntmps33
        go_wp2_with fail
        refine BI.out.mono ?_
        rintro e w1 ⟨rfl, rfl⟩
        go_wp2_with fail
        refine (binds_any h true HB.out _).mono ?_
        rintro e w1 ⟨rfl, rfl⟩
        go_wp2_with (at_builtin; go_must (refine wpList_append_own_at _ rfl _ _ 53 rfl w.heap.size 9 i0 (.string ⟨#[]⟩) 1 16 Tryz.underlying53 hi0 hz0 hz1 hz2 rfl (by decide) _ 1 [S h] rfl (HOA.out _) ⟨w.heap.size + 1, 0, none⟩ 1 1 [S a] rfl rfl HC1.out HC2.out bnd2 bnd (HC5.out _) ?_); intro v' w4 hown' hgrow _ _; obtain ⟨A', c', rfl, p0, p1, p3, pl, pf, po⟩ := PST.out _ v' w4 hown' hgrow; have ST := Lib.hid (And.intro pf po); clear hown' hgrow pf po)
        go_loopw [5, 53] (fun v i wr => ∃ (j : Nat) (l' : List (List UInt8)) (A' : Option Addr) (c' : Nat), j ≤ k.len ∧ i = .int .i64 j ∧ v = .slice A' l'.length c' ∧ l' ++ txL (k.from_ j) bs h a j = all ∧ Fr No w wr ∧
            wr.ownsRow w.heap.size 9 1 (.slice A' l'.length c') l'.length (l'.map S)) (fun _ i _ => k.len - (intOf i).toNat)
        case atStart => exact ⟨0, [h, a], _, _, Nat.zero_le _, rfl, rfl, START0.out, ST.out.1, ST.out.2⟩
        case round =>
          obtain ⟨j, l', A', c', hj, rfl, rfl, hsum, hfr, hown⟩ := hrel
          have HS := Lib.hid hsum
          have HW := Lib.hid hown
          have HFR := Lib.hid hfr
          have hll : l'.length ≤ 900 := by
            have h1 := congrArg List.length hsum
            have := HAL.out
            simp only [List.length_append] at h1
            omega
          clear hsum hown hfr
          by_cases hlt2 : j < k.len
          · obtain ⟨g, o, q, h', a', d', k', rfl, hg, hn, hc, htm⟩ := (HSL.out.mono (T' := T) (fun _ h => h) (fun b hb => HFR.out.block b (HT.out b hb) (fun h => h))).at_ hlt2
            have hst := tx_step (i := j) (ph := h) (pa := a) (bs := bs) hn
            have hz := Ts.nth_size hn
            have htk := tok_at k j 0 h' a' h a d' k' bs HTOK.out.2 hn
            rw [Nat.zero_add] at htk
            have hlg := block_lt hc
            have hjk : j ≤ 1000 := by omega
            have hil := ins_len bs h a j
            obtain ⟨tx, HTX⟩ : ∃ z, Hid (txN (insB bs h a j) h' a' d' k' = z) := ⟨_, rfl⟩
            have HTT : Hid ((l' ++ [tx]) ++ txL (k.from_ (j + 1)) bs h a (j + 1) = all) := by
              have := HS.out
              rw [hst, HTX.out] at this
              refine Lib.hid ?_
              simpa using this
            have htl : tx.length ≤ 10000 := by
              have h1 : tx ∈ all := by rw [← HTT.out]; simp
              have := spj_le h1
              simp only [List.length_cons, List.length_append, List.length_nil] at hlen
              omega
            have HBW : Hid (∀ w', Fr No wr w' → w'.cell? ⟨p, 0, none⟩ = some (S h) ∧ w'.cell? ⟨p, 1, none⟩ = some (S a) ∧ p < w'.heap.size) := fun w' hf => by
              have h1 := (HBK.out.fr HFR.out (fun h => h)).fr hf (fun h => h)
              exact ⟨(h1.cell 0).trans rfl, (h1.cell 1).trans rfl, h1.lt⟩
            have INS : Hid (∀ w', w' = wr.drew → Calls Tryz.prog 57 #[.slice A bs.length c, S h, S a, .int .i64 j] w' fun e w1 => ∃ Z zc, e = .returned (.slice Z (insB bs h a j).length zc) ∧ Fr No wr w1 ∧ NSl w1 Z (insB bs h a j)) := by
              rintro w' rfl
              have hfd : Fr No wr wr.drew := (Fr.refl _ _).drew
              refine (inside_any wr.drew A bs c bs.length rfl h a j (HBS.out.fr (HFR.out.trans hfd) (fun _ _ _ h => h)) (by omega) hjk).mono ?_
              rintro e w1 ⟨Z, zc, rfl, z1, z2, _⟩
              exact ⟨Z, zc, rfl, hfd.trans z1, z2⟩
            have TXC : Hid (∀ (w1 : World) (Z : Option Addr) (zc : Nat), Fr No wr w1 → NSl w1 Z (insB bs h a j) → Calls Tryz.prog 33 #[Ptr q, .slice Z (insB bs h a j).length zc] w1 fun e w2 => e = .returned (S tx) ∧ Fr No wr w2) := by
              intro w1 Z zc hf hz1
              refine (HN.out h' a' d' k' j hn h' a' d' q w1 T Z zc _ htk (by rw [HTX.out]; exact htl) (by omega) (fun b hb => Nat.lt_of_lt_of_le (HT.out b hb) (HFR.out.trans hf).size) (htm.mono (fun _ h => h) (fun b hb => hf.block b (Nat.lt_of_lt_of_le (HT.out b hb) HFR.out.size) (fun h => h))) hz1).mono ?_
              rintro e w2 ⟨rfl, hf2⟩
              exact ⟨by rw [HTX.out], hf.trans hf2⟩
            obtain ⟨i0, hi0, hz0, hz1, hz2⟩ := info_parts info_str
            have HOWA : Hid (∀ w2, Fr No wr w2 → ∀ ob : Obj, (w2.alloc ob).ownsRow w.heap.size 9 1 (.slice A' l'.length c') l'.length (l'.map S)) := fun w2 hf ob => own_fr HW.out (hf.alloc ob) (fun _ _ h => h)
            have HNW : Hid (∀ w2 : World, ∀ (j : Nat) (u : Value), [S tx][j]? = some u → (w2.alloc (.cells #[S tx] 9)).cell? ((⟨w2.heap.size, 0, none⟩ : Addr).add j) = some u) := fun w2 => cells_new rfl [S tx] 9
            have HC2 : Hid (∀ u ∈ [S tx], u.oneCell' = true) := by
              intro u hu
              simp at hu
              rw [hu]; rfl
            have HBB : Hid (∀ w2, Fr No wr w2 → ∀ ob : Obj, w.heap.size ≤ (w2.alloc ob).heap.size) := fun w2 hf ob => Nat.le_trans HFR.out.size (hf.alloc ob).size
            have bnd : (l'.length + 1) * 16 ≤ 140737488355328 := by omega
            have bnd2 : l'.length + 1 ≤ maxLen := by unfold maxLen; omega
            have FINN : Hid (∀ w2, Fr No wr w2 → ∀ (ob : Obj) (g4 cap4 : Nat) (w4 : World), w4.ownsRow w.heap.size 9 1 (.slice (some ⟨g4, 0, none⟩) (l'.length + 1) cap4) (l'.length + 1) (l'.map S ++ [S tx]) → (w2.alloc ob).grownBy w4 (Value.slice A' l'.length c').ownBlock →
                w4.cell? ⟨p, 0, none⟩ = some (S h) ∧ w4.cell? ⟨p, 1, none⟩ = some (S a) ∧ Fr No w w4 ∧ w4.ownsRow w.heap.size 9 1 (.slice (some ⟨g4, 0, none⟩) (l' ++ [tx]).length cap4) (l' ++ [tx]).length ((l' ++ [tx]).map S)) := by
              intro w2 hf ob g4 cap4 w4 h2 h3
              have e1 : l'.map S ++ [S tx] = (l' ++ [tx]).map S := by simp
              have e2 : (l' ++ [tx]).length = l'.length + 1 := by simp
              rw [e1, ← e2] at h2
              have hfw : Fr No w w4 := (HFR.out.trans (hf.alloc ob)).grown h3 (fun b hb => .inr (HW.out.lt b hb).1)
              have hbw := HBK.out.fr hfw (fun h => h)
              exact ⟨(hbw.cell 0).trans rfl, (hbw.cell 1).trans rfl, hfw, h2⟩
            obtain ⟨b0, b1, bl⟩ := HBW.out wr (Fr.refl _ _)
            obtain ⟨ib, HIB⟩ : ∃ z, Hid ((insB bs h a j).length = z) := ⟨_, rfl⟩
            rw [HIB.out] at INS TXC
            clear hst hn hz htk htm htl hil
            go_wp2_with fail
            go_region_held3 (fun w' => w'.cell? ⟨p, 0, none⟩ = some (S h) ∧ w'.cell? ⟨p, 1, none⟩ = some (S a)) (go_keep)
              (first | (go_at_call 57; ((with_reducible refine (INS.out _ rfl).mono ?_); rintro e w1 ⟨Z, zc, rfl, z1, z2⟩; obtain ⟨d0, d1, dl⟩ := HBW.out w1 z1)) | (go_at_call 33; ((with_reducible refine (TXC.out _ _ _ z1 z2).mono ?_); rintro e w2 ⟨rfl, k1⟩; obtain ⟨e0, e1, el⟩ := HBW.out w2 k1)) | (refine step_append_lies _ (by rfl) _ _ _ (by rfl) w.heap.size 9 i0 (.string ⟨#[]⟩) 1 16 Tryz.underlying53 hi0 hz0 hz1 hz2 (by rfl) (by decide) (.slice A' l'.length c') l'.length (l'.map S) (by rfl) (HOWA.out _ k1 _) ⟨w2.heap.size, 0, none⟩ 1 1 [S tx] (by rfl) (by rfl) (HNW.out w2) HC2.out (by decide) bnd2 bnd (HBB.out _ k1 _) (w2.heap.size + 1) (by simp) ?_; intro g4 cap4 w4 hown4 hgrow hat hlt4; obtain ⟨f0, f1, f2, f3⟩ := FINN.out w2 k1 _ g4 cap4 w4 hown4 hgrow; have REL := Lib.hid (And.intro f2 f3)))
            go_wp2_with fail
            go_roundw
            case rel => exact ⟨j + 1, l' ++ [tx], some ⟨g4, 0, none⟩, cap4, by omega, by go_num, by simp, HTT.out, REL.out.1, REL.out.2⟩
            case measure => simp [intOf]; omega
          · have hjl : j = k.len := by omega
            have HE : Hid (l' = all) := by
              have := HS.out
              rw [hjl, Ts.from_len] at this
              refine Lib.hid ?_
              simpa [txL] using this
            have hle : (spj all).length ≤ 10000 := by
              simp only [List.length_cons, List.length_append, List.length_nil] at hlen
              omega
            have JO : Hid (Calls Tryz.prog 58 #[.slice A' l'.length c', .string ⟨#[32]⟩] wr fun e w' => e = .returned (S (spj all)) ∧ Fr No wr w') := by
              rw [← HE.out]
              refine join_own wr w.heap.size A' c' l' HW.out ?_ hll (by rw [HE.out]; omega)
              rw [HE.out, ← HALL.out]
              simp
            clear hjl
            go_wp2_with fail
            refine JO.out.mono ?_
            rintro e w1 ⟨rfl, hf1⟩
            go_wp2_with fail
            go_ret
            exact ⟨ret_str (by simp), HFR.out.trans hf1⟩
  · have hbn : h = hName ∧ a = [] := by
      unfold boundB at hq
      simpa using hq
    have hd := htok.1 hbn
    have HR : Hid (txN bs h a d k = bs.getD (bs.length - 1 - d) []) := by
      refine Lib.hid ?_
      unfold txN
      rw [if_pos hbn]
    obtain ⟨x, hx⟩ : ∃ x, bs[bs.length - 1 - d]? = some x := ⟨_, List.getElem?_eq_getElem (by omega)⟩
    have HRX : Hid (txN bs h a d k = x) := by
      refine Lib.hid ?_
      rw [HR.out, List.getD_eq_getElem?_getD, hx]
      rfl
    obtain ⟨g, o, rfl, hc⟩ := hbs _ x hx
    have hlg := block_lt hc
    rw [HRX.out]
    rw [hq] at BI
    obtain ⟨bl, hbl⟩ : ∃ bl, bl = bs.length := ⟨_, rfl⟩
    rw [← hbl] at hd hc hsz ⊢
    obtain ⟨q, hqq⟩ : ∃ q, q = bl - 1 - d := ⟨_, rfl⟩
    rw [← hqq] at hc
    have hqi : (bl : Int) - 1 - (d : Int) = (q : Int) := by omega
    have hql : q < bl := by omega
    have hb8 : (bl : Int) ≤ 800 := by omega
    have hd8 : (d : Int) ≤ 800 := by omega
    have hb1 : (1 : Int) ≤ (bl : Int) := by omega
    clear hq hbn hlen hbs htok hx HR HRX hbl hqq hd
    go_enter Tryz.func33, Tryz.ntmps33
    go_wp2_with fail
    refine BI.out.mono ?_
    rintro e w1 ⟨rfl, rfl⟩
    go_wp2_with fail
    go_ret
    exact ⟨rfl, Fr.refl _ _⟩


theorem tx_any (N : Nat) : ∀ k : Ts, SizeOf.sizeOf k < N → TxSaid k := by
  induction N with
  | zero => intro k h; omega
  | succ N ih =>
    intro k hN
    exact tx_node k (fun h a d k' j hn => ih k' (by have := Ts.nth_small k j h a d k' hn; omega))

end Go.Proofs.YtnjgaenhjdjpfaaGreatDoor

/- TermKids of the program. -/
namespace Go.Proofs.YtnjgaenhjdjpfaaGreatDoor
open Go.RowKit Go.ChangeMaps

/-- the model's texts of the parts that are terms are those of the program's parts -/
theorem sk_kids (h : List UInt8) : ∀ (f : Fo) (i c : Nat), c + i = kidsOf h → isTms (some (List.replicate c true)) f = true → skU h f (i + if bindsB h then 2 else 1) = f.tlist
  | .nil, _, _, _, _ => rfl
  | .cons a k r, i, 0, _, hs => by simp [isTms] at hs
  | .cons a k r, i, c + 1, hc, hs => by
    rw [List.replicate_succ] at hs
    simp only [isTms, Bool.and_eq_true] at hs
    have hin := inn_kid h i (by omega)
    have := sk_kids h r (i + 1) c (by omega) hs.2
    simp only [skU, hin, if_true, Fo.tlist, List.singleton_append]
    rw [show (i + if bindsB h then 2 else 1) + 1 = i + 1 + if bindsB h then 2 else 1 by omega, this]

theorem kid_texts {a : List UInt8} {k : Fo} (h : isTm a k = true) (hw : a ≠ [] → k = .nil) (hk : k.wf) : txL (cv k (.parts [])) [] (ndH a k) (ndA [] a k) 0 = kidL a k := by
  by_cases ha : a = []
  · subst ha
    cases k with
    | nil => simp [isTm, isTms] at h
    | cons g k0 r =>
      have hs : isTms none (.cons g k0 r) = true := by simpa [isTm] using h
      simp only [isTms, Bool.and_eq_true] at hs
      have hs0 : shapeOf g ≠ [] := by intro e; rw [e] at hs; cases hs.1
      have e0 : kidL [] (.cons g k0 r) = skU g r 1 := rfl
      have eH : ndH [] (.cons g k0 r) = g := rfl
      rw [e0, eH]
      rcases shape_cases g with ⟨e, _⟩ | ⟨hb, e, hk1⟩ | ⟨hb, e, hk1⟩
      · exact absurd e hs0
      · rw [e] at hs
        cases r with
        | nil => simp [isTms] at hs
        | cons b nk r' =>
          have eA : ndA [] [] (.cons g k0 (.cons b nk r')) = b := by simp [ndA, hd1, hd2, hb]
          have e1 : cv (.cons g k0 (.cons b nk r')) (.parts []) = cv r' (.kids [] g b 0) := by simp [cv, hb]
          simp only [isTms, Bool.and_eq_true] at hs
          have h1 := ((tx_eq r' hk.2.2.2.2).1 [] g b 0 _ hs.2.2)
          have h2 := sk_kids g r' 0 _ (by omega) hs.2.2
          rw [hb] at h2
          have e3 : innB g 1 = false := by unfold innB; rw [e]; rfl
          rw [eA, e1, h1, ← h2]
          simp [skU, e3]
      · rw [e] at hs
        have eA : ndA [] [] (.cons g k0 r) = [] := by simp [ndA, hd1, hb]
        have e1 : cv (.cons g k0 r) (.parts []) = cv r (.kids [] g [] 0) := by simp [cv, hb]
        have h1 := ((tx_eq r hk.2.2).1 [] g [] 0 _ hs.2)
        have h2 := sk_kids g r 0 _ (by omega) hs.2
        rw [hb] at h2
        rw [eA, e1, h1, ← h2]
        rfl
  · obtain rfl := hw ha
    cases a
    · exact absurd rfl ha
    · rfl

theorem AnsKids.none_ {s : List UInt8} {w w1 : World} {A : Option Addr} {c : Nat} (ho : w1.ownsRow w.heap.size 9 1 (.slice A 0 c) 0 []) (hf : Fr No w w1) (hno : ∀ a k, ¬ TmOk s a k) : AnsKids s w (.returned (.tuple #[.slice A 0 c, .bool false])) w1 :=
  ⟨A, c, false, [], rfl, ho, hf, .inr ⟨hno, rfl, rfl⟩⟩

theorem tok_term {a : List UInt8} {k : Fo} (h : isTm a k = true) (hw : a ≠ [] → k = .nil) (hk : k.wf) : Tok (cv k (.parts [])) [] (ndH a k) (ndA [] a k) 0 := by
  by_cases ha : a = []
  · subst ha
    have h2 : isTms none k = true := by simpa [isTm] using h
    simp only [ndH, ndA, if_true]
    exact (tok_eq k hk).2.1 [] h2
  · obtain rfl := hw ha
    trivial

end Go.Proofs.YtnjgaenhjdjpfaaGreatDoor

/- The law TermKids. -/
namespace Go.Proofs.YtnjgaenhjdjpfaaGreatDoor
open Go.RowKit Go.ChangeMaps

end Go.Proofs.YtnjgaenhjdjpfaaGreatDoor
