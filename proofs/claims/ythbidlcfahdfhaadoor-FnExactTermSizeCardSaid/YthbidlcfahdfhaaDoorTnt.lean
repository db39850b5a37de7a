import Derived.Test.YthbidlcfahdfhaaDoorTnm
import Derived.Deep.RegionHeld3
namespace Go.Proofs.YthbidlcfahdfhaaDoor
open Go.RowKit Go.ChangeMaps

def NameT (bs : List (List UInt8)) (x : List UInt8) (w : World) (e : Ending) (w' : World) : Prop :=
  ∃ p, e = .returned (Ptr p) ∧ Fr No w w' ∧ Tm w' (fun b => w.heap.size ≤ b ∧ b < w'.heap.size) p hName (nmA bs x) ((depOf x bs).getD 0) .nil

theorem TSl.nil (w : World) (T : Nat → Prop) (A : Option Addr) : TSl w T A .nil := ⟨[], rfl, .inl rfl⟩

theorem not_more {bs : List (List UInt8)} {x y : List UInt8} {j : Nat} (h : ∀ z ∈ bs.reverse.take j, z ≠ x) (hj : bs.reverse[j]? = some y) (hne : y ≠ x) : ∀ z ∈ bs.reverse.take (j + 1), z ≠ x := by
  intro z hz
  rw [List.take_add_one, hj] at hz
  rcases List.mem_append.1 hz with hz | hz
  · exact h z hz
  · simp at hz; rw [hz]; exact hne

theorem rev_at {bs : List (List UInt8)} {j : Nat} (hj : j < bs.length) : ∃ y, bs.reverse[j]? = some y ∧ bs[bs.length - 1 - j]? = some y := by
  refine ⟨bs[bs.length - 1 - j]'(by omega), ?_, List.getElem?_eq_getElem _⟩
  rw [List.getElem?_reverse hj, List.getElem?_eq_getElem (by omega)]

def BndT (d : Nat) (w : World) (e : Ending) (w' : World) : Prop :=
  ∃ p, e = .returned (Ptr p) ∧ Fr No w w' ∧ Tm w' (fun b => w.heap.size ≤ b ∧ b < w'.heap.size) p hName [] d .nil

theorem bound_new {w w1 : World} {d : Nat} {e : Ending} (h : NewPost (fun _ => False) hName [] .nil w e w1) :
    ∃ p, e = .returned (Ptr p) ∧ w1.cell? ⟨p, 2, none⟩ = some (.int .i64 0) ∧ w1.frozen? ⟨p, 2, none⟩ = false ∧ p < w1.heap.size ∧ BndT d w (.returned (Ptr p)) (w1.setCell ⟨p, 2, none⟩ (.int .i64 d)) := by
  obtain ⟨p, rfl, hf, hp, htm⟩ := h
  obtain ⟨hTp, A, c, hb, hs⟩ := htm.open_
  refine ⟨p, rfl, (hb.cell 2).trans rfl, hb.frozen 2, hb.lt, p, rfl, hf.setCell (p := ⟨p, 2, none⟩) (.inr hp) _, ?_⟩
  refine Tm.mk (A := A) (c := c) ⟨hp, by simp [World.setCell]; exact hb.lt⟩ (Blk.set_ hb 2 (.int .i64 d)) (TSl.nil _ _ _)

set_option maxRecDepth 100000 in
set_option maxHeartbeats 2000000 in
theorem boundTerm_any (d : Nat) (w : World) :
    Calls Tryd.prog 90 #[.int .i64 d] w fun e w' => BndT d w e w' := by
  have CALL : Hid (Calls Tryd.prog 71 #[.string ⟨#[110, 97, 109, 101]⟩, .string ⟨#[]⟩, .slice none 0 0] w fun e w' => NewPost (fun _ => False) hName [] .nil w e w') :=
    newTerm_any w (fun _ => False) hName [] .nil none 0 (fun _ h => h.elim) (TSl.nil _ _ _) (by simp [Ts.size]) (by simp [Ts.len])
  go_enter Tryd.func90, Tryd.ntmps90
  go_wp2_with fail
  refine CALL.out.mono ?_
  rintro e w1 hpost
  obtain ⟨p, rfl, q2, q3, q4, hfin⟩ := bound_new (d := d) hpost
  have HF := Lib.hid hfin
  clear hfin hpost
  go_wp2_with fail
  go_ret
  exact HF.out

theorem name_hit {bs : List (List UInt8)} {x : List UInt8} {w w1 : World} {j : Nat} {e : Ending} (hd : depOf x bs = some j) (h : BndT j w e w1) :
    ∃ p, e = .returned (Ptr p) ∧ NameT bs x w (.returned (Ptr p)) w1 := by
  obtain ⟨p, rfl, hf, htm⟩ := h
  refine ⟨p, rfl, p, rfl, hf, ?_⟩
  rw [show nmA bs x = [] by simp [nmA, hd], hd]
  exact htm

theorem name_miss {bs : List (List UInt8)} {x : List UInt8} {w w1 : World} {e : Ending} (hd : depOf x bs = none) (h : NewPost (fun _ => False) hName x .nil w e w1) : ∃ p, e = .returned (Ptr p) ∧ NameT bs x w (.returned (Ptr p)) w1 := by
  obtain ⟨p, rfl, hf, hp, htm⟩ := h
  refine ⟨p, rfl, p, rfl, hf, ?_⟩
  rw [show nmA bs x = x by simp [nmA, hd], hd]
  exact htm.mono (fun b hb => hb.elim (fun h => h.elim) (fun h => h)) (fun _ _ => rfl)

set_option maxRecDepth 100000 in
set_option maxHeartbeats 2000000 in
theorem nameTerm_any (w : World) (A : Option Addr) (bs : List (List UInt8)) (c n : Nat) (hn : n = bs.length) (x : List UInt8) (hb : NSl w A bs) (hl : n ≤ 1000) :
    Calls Tryd.prog 72 #[S x, .slice A n c] w fun e w' => NameT bs x w e w' := by
  have hl' : (n : Int) ≤ 1000 := by omega
  have HITS : Hid (∀ j y, bs.reverse[j]? = some y → (∀ z ∈ bs.reverse.take j, z ≠ x) → y = x → depOf x bs = some j) := by
    intro j y hj hno hy
    unfold depOf
    have hjl := (List.getElem?_eq_some_iff.1 hj).1
    rw [depR_skip x bs.reverse 0 j hno (by omega), List.drop_eq_getElem_cons hjl]
    have : bs.reverse[j] = x := by
      obtain ⟨_, e⟩ := List.getElem?_eq_some_iff.1 hj
      rw [e, hy]
    rw [depR, if_pos this]
    simp
  have MISS : Hid ((∀ z ∈ bs.reverse.take n, z ≠ x) → depOf x bs = none) := by
    intro h
    rw [hn, show bs.length = bs.reverse.length by simp, List.take_length] at h
    exact depR_none x _ 0 h
  have CELL : Hid (∀ j, j < n → ∃ g o y, A = some ⟨g, o, none⟩ ∧ w.cell? ⟨g, o + (n - 1 - j), none⟩ = some (S y) ∧ bs.reverse[j]? = some y) := by
    intro j hj
    obtain ⟨y, h1, h2⟩ := rev_at (bs := bs) (j := j) (by omega)
    obtain ⟨g, o, e, hc⟩ := hb _ _ h2
    exact ⟨g, o, y, e, by rw [hn]; exact hc, h1⟩
  clear hb hn
  go_enter Tryd.func72, Tryd.ntmps72
  go_wp2_with fail
  go_loop [8] (fun u => ∃ j : Nat, j ≤ n ∧ u = .int .i64 j ∧ (∀ z ∈ bs.reverse.take j, z ≠ x)) (fun u => n - (intOf u).toNat)
  case atStart => exact ⟨0, Nat.zero_le _, rfl, by simp⟩
  case round =>
    obtain ⟨j, hj, rfl, hno⟩ := hrel
    have HN := Lib.hid hno
    clear hno
    by_cases hlt : j < n
    · obtain ⟨g, o, y, rfl, hc, hy⟩ := CELL.out j hlt
      have HY := Lib.hid hy
      clear hy
      have w1 : IntKind.i64.wrap ((n : Int) - 1) = (n : Int) - 1 := IntWalk.i64_in _ (by omega)
      have w2 : IntKind.i64.wrap ((n : Int) - 1 - (j : Int)) = ((n - 1 - j : Nat) : Int) := by rw [IntWalk.i64_in _ (by omega)]; omega
      have w3 : ((n : Int) - 1 - (j : Int)) = ((n - 1 - j : Nat) : Int) := by omega
      have hi : n - 1 - j < n := by omega
      by_cases hyx : y = x
      · subst hyx
        have HD := Lib.hid (HITS.out j y HY.out HN.out rfl)
        have CALL : Hid (Calls Tryd.prog 90 #[.int .i64 j] w fun e w' => BndT j w e w') := boundTerm_any j w
        go_wp2_with fail
        refine CALL.out.mono ?_
        rintro e w1 hpost
        obtain ⟨p, rfl, hfin⟩ := name_hit HD.out hpost
        have HF := Lib.hid hfin
        clear hfin hpost
        go_wp2_with fail
        go_ret
        exact HF.out
      · have hne : (y == x) = false := by simpa using hyx
        have HM := Lib.hid (not_more HN.out HY.out hyx)
        clear hyx
        go_wp2_with fail
        go_round
        case rel => exact ⟨j + 1, by omega, by go_num, HM.out⟩
        case measure => simp [intOf]; omega
    · have hjn : j = n := by omega
      subst hjn
      have HD := Lib.hid (MISS.out HN.out)
      have CALL : Hid (Calls Tryd.prog 71 #[.string ⟨#[110, 97, 109, 101]⟩, S x, .slice none 0 0] w fun e w' => NewPost (fun _ => False) hName x .nil w e w') :=
        newTerm_any w (fun _ => False) hName x .nil none 0 (fun _ h => h.elim) (TSl.nil _ _ _) (by simp [Ts.size]) (by simp [Ts.len])
      go_wp2_with fail
      refine CALL.out.mono ?_
      rintro e w1 hpost
      obtain ⟨p, rfl, hfin⟩ := name_miss HD.out hpost
      have HF := Lib.hid hfin
      clear hfin hpost
      go_wp2_with fail
      go_ret
      exact HF.out

theorem info_str : (Tryd.prog.info? 9).map (fun i => (i.zero, i.size, i.bytes)) = some (some (.string ⟨#[]⟩), 1, 16) := by kernel_rfl

theorem own_form {w : World} {B e size n : Nat} {v : Value} {xs : List Value} (h : w.ownsRow B e size v n xs) : ∃ A c, v = .slice A n c := by
  rcases h.2 with ⟨hv, hn⟩ | ⟨g, cap, cur, hv, _⟩
  · exact ⟨none, 0, by rw [hv, hn]⟩
  · exact ⟨_, _, hv⟩

theorem NSl.of_own {w : World} {B n : Nat} {xs : List (List UInt8)} {A : Option Addr} {c : Nat} (ho : w.ownsRow B 9 1 (.slice A n c) n (xs.map S)) (hn : n = xs.length) : NSl w A xs := by
  intro j x hj
  have hl := (List.getElem?_eq_some_iff.1 hj).1
  rcases ho.2 with ⟨_, h0⟩ | ⟨g, cap, cur, hv, _⟩
  · omega
  · injection hv with e1 e2 e3
    refine ⟨g, 0, e1, ?_⟩
    have := ho.cells (g := g) (by rw [e1]; rfl) j (S x) (by rw [List.getElem?_map, hj]; rfl)
    rw [addr_add] at this
    exact this

theorem clone_any (w : World) (A : Option Addr) (bs : List (List UInt8)) (c n : Nat) (hn : n = bs.length) (hb : NSl w A bs) (hl : n ≤ 1000) :
    Calls Tryd.prog 56 #[.slice A n c] w fun e w' => ∃ A' c', e = .returned (.slice A' n c') ∧ w'.ownsRow w.heap.size 9 1 (.slice A' n c') n (bs.map S) ∧ Fr No w w' := by
  subst hn
  match A, bs, hb, hl with
  | none, [], hb, hl =>
    refine (Tryd.slices_Clone_string_nil 0 c w).mono ?_
    rintro e w' ⟨rfl, rfl⟩
    exact ⟨none, 0, rfl, World.ownsRow_nil _ _ _ _, Fr.refl _ _⟩
  | some a, [], hb, hl =>
    refine (Tryd.slices_Clone_string_zero a c w).mono ?_
    rintro e w' ⟨v', rfl, ho, _, hbel⟩
    obtain ⟨A', c', rfl⟩ := own_form ho
    exact ⟨A', c', rfl, ho, Fr.of_below hbel (Nat.le_refl _) _⟩
  | A, b :: bs, hb, hl =>
    obtain ⟨g, o, rfl, h0⟩ := hb 0 b rfl
    refine (Tryd.slices_Clone_string g o (b :: bs).length c ((b :: bs).map fun l => ⟨l.toArray⟩) w (by simp) (by omega) ?_).mono ?_
    · intro j hj
      rw [List.length_map] at hj
      obtain ⟨g', o', e', hc⟩ := hb j _ (List.getElem?_eq_getElem hj)
      injection e' with e'
      injection e' with e1 e2
      subst e1; subst e2
      rw [hc]
      rw [List.getD_eq_getElem?_getD, List.getElem?_map, List.getElem?_eq_getElem hj]
      rfl
    · rintro e w' ⟨v', rfl, ho, _, hbel⟩
      obtain ⟨A', c', rfl⟩ := own_form ho
      refine ⟨A', c', rfl, ?_, Fr.of_below hbel (Nat.le_refl _) _⟩
      have e2 : (((b :: bs).map fun l => (⟨l.toArray⟩ : ByteArray)).take (b :: bs).length).map Value.string = (b :: bs).map S := by
        rw [List.take_of_length_le (by simp), List.map_map]; rfl
      rw [e2] at ho
      exact ho

def InsPost (A0 : Option Addr) (bs : List (List UInt8)) (w : World) (e : Ending) (w' : World) : Prop := ∃ A c, e = .returned (.slice A bs.length c) ∧ Fr No w w' ∧ NSl w' A bs ∧ (A = A0 ∨ ∀ g o, A = some ⟨g, o, none⟩ → w.heap.size ≤ g)

theorem kids_le (h : List UInt8) : kidsOf h ≤ 3 := by
  have : (shapeOf h).length ≤ 3 := by
    unfold shapeOf
    repeat' split
    all_goals simp
  unfold kidsOf
  split <;> omega

theorem kids_binds {h : List UInt8} (hb : bindsB h = true) : 1 ≤ kidsOf h := by
  unfold bindsB at hb
  simp only [Bool.or_eq_true, beq_iff_eq] at hb
  rcases hb with rfl | rfl <;> decide

def bndN (h : List UInt8) (i : Nat) : Nat := if bindsB h = true ∧ i + 1 = kidsOf h then 1 else 0

theorem bndN_le (h : List UInt8) (i : Nat) : bndN h i ≤ 1 := by
  unfold bndN; split <;> omega

set_option maxRecDepth 100000 in
set_option maxHeartbeats 2000000 in
theorem boundIn_any (h : List UInt8) (i : Nat) (n : Int) (hn : (bndN h i : Int) = n) (_hi : i ≤ 1000) (w : World) :
    Calls Tryd.prog 55 #[S h, .int .i64 i] w fun e w' => e = .returned (.int .i64 n) ∧ w = w' := by
  have hk3 := kids_le h
  rcases hbb : bindsB h with _ | _
  · have e1 : n = 0 := by rw [← hn]; simp [bndN, hbb]
    have HB := Lib.hid hbb
    subst e1
    clear hbb hn
    go_enter Tryd.func55, Tryd.ntmps55
    go_wp2_with fail
    refine (binds_any h false HB.out _).mono ?_
    rintro e w' ⟨rfl, rfl⟩
    go_wp2_with fail
    go_ret
    exact ⟨rfl, rfl⟩
  · have hk1 := kids_binds hbb
    obtain ⟨m, hm⟩ : ∃ m, m = kidsOf h := ⟨_, rfl⟩
    have HM := Lib.hid hm.symm
    rw [← hm] at hk1 hk3
    have w1 : IntKind.i64.wrap ((m : Int) - 1) = (m : Int) - 1 := IntWalk.i64_in _ (by omega)
    by_cases hik : i + 1 = m
    · have e1 : n = 1 := by rw [← hn, bndN, if_pos ⟨hbb, by omega⟩]; rfl
      have e2 : ((i : Int) == (m : Int) - 1) = true := beq_iff_eq.2 (by omega)
      have HB := Lib.hid hbb
      subst e1
      clear hbb hm hik hn
      go_enter Tryd.func55, Tryd.ntmps55
      go_wp2_with fail
      refine (binds_any h true HB.out _).mono ?_
      rintro e w' ⟨rfl, rfl⟩
      go_wp2_with fail
      refine (kids_any h m HM.out _).mono ?_
      rintro e w' ⟨rfl, rfl⟩
      go_wp2_with fail
      go_ret
      exact ⟨rfl, rfl⟩
    · have e1 : n = 0 := by rw [← hn, bndN, if_neg (fun h => by omega)]; rfl
      have e2 : ((i : Int) == (m : Int) - 1) = false := beq_eq_false_iff_ne.2 (by omega)
      have HB := Lib.hid hbb
      subst e1
      clear hbb hm hik hn
      go_enter Tryd.func55, Tryd.ntmps55
      go_wp2_with fail
      refine (binds_any h true HB.out _).mono ?_
      rintro e w' ⟨rfl, rfl⟩
      go_wp2_with fail
      refine (kids_any h m HM.out _).mono ?_
      rintro e w' ⟨rfl, rfl⟩
      go_wp2_with fail
      go_ret
      exact ⟨rfl, rfl⟩

set_option maxRecDepth 100000 in
set_option maxHeartbeats 2000000 in
theorem inside_any (w : World) (A : Option Addr) (bs : List (List UInt8)) (c n : Nat) (hn : n = bs.length) (h x : List UInt8) (i : Nat) (hb : NSl w A bs) (hl : n ≤ 900) (_hi : i ≤ 1000) :
    Calls Tryd.prog 36 #[.slice A n c, S h, S x, .int .i64 i] w fun e w' => InsPost A (insB bs h x i) w e w' := by
  by_cases hq : bindsB h = true ∧ i + 1 = kidsOf h
  · have e1 : insB bs h x i = bs ++ [x] := by simp [insB, hq]
    have en : (bndN h i : Int) = 1 := by simp [bndN, hq]
    have HE := Lib.hid e1
    have HB := Lib.hid en
    have CL : Hid (Calls Tryd.prog 56 #[.slice A n c] w fun e w' => ∃ A' c', e = .returned (.slice A' n c') ∧ w'.ownsRow w.heap.size 9 1 (.slice A' n c') n (bs.map S) ∧ Fr No w w') := clone_any w A bs c n hn hb (by omega)
    have HNN := Lib.hid hn
    clear e1 hn hb hq en
    go_enter Tryd.func36, Tryd.ntmps36
    go_wp2_with fail
    refine (boundIn_any h i 1 HB.out _hi _).mono ?_
    rintro e w' ⟨rfl, rfl⟩
    go_wp2_with fail
    refine CL.out.mono ?_
    rintro e w1 ⟨A1, c1, rfl, ho, hf1⟩
    obtain ⟨i0, hi0, hz0, hz1, hz2⟩ := info_parts info_str
    have hsz := hf1.size
    have HOA : Hid (∀ o : Obj, (w1.alloc o).ownsRow w.heap.size 9 1 (.slice A1 n c1) n (bs.map S)) := fun o => ho.alloc o
    have HC1 : Hid (∀ (i : Nat) (u : Value), [S x][i]? = some u → (w1.alloc (.cells #[S x] 9)).cell? ((⟨w1.heap.size, 0, none⟩ : Addr).add i) = some u) := cells_new (w := w1) rfl [S x] 9
    have HC2 : Hid (∀ u ∈ [S x], u.oneCell' = true) := by
      intro u hu
      simp at hu
      rw [hu]; rfl
    have HC5 : Hid (∀ o : Obj, w.heap.size ≤ (w1.alloc o).heap.size) := fun o => by simp; omega
    have bnd : (n + 1) * 16 ≤ 140737488355328 := by omega
    have bnd2 : n + 1 ≤ maxLen := by unfold maxLen; omega
    have FIN : Hid (∀ (o : Obj) (v' : Value) (w2 : World), w2.ownsRow w.heap.size 9 1 v' (n + 1) (bs.map S ++ [S x]) → (w1.alloc o).grownBy w2 (Value.slice A1 n c1).ownBlock → InsPost A (insB bs h x i) w (.returned v') w2) := by
      intro o v' w2 h1 h2
      rw [HE.out]
      obtain ⟨A', c', rfl⟩ := own_form h1
      have e3 : bs.map S ++ [S x] = (bs ++ [x]).map S := by simp
      rw [e3] at h1
      refine ⟨A', c', by rw [HNN.out]; simp, (hf1.alloc o).grown h2 (fun k hk => .inr (ho.lt k hk).1), NSl.of_own h1 (by rw [HNN.out]; simp), .inr (fun g o e => by subst e; exact (h1.lt g rfl).1)⟩
    clear ho hf1
    go_wp2_with (at_builtin; go_must (refine wpList_append_own_at _ rfl _ _ 24 rfl w.heap.size 9 i0 (.string ⟨#[]⟩) 1 16 Tryd.underlying24 hi0 hz0 hz1 hz2 rfl (by decide) _ n (bs.map S) rfl (HOA.out _) ⟨w1.heap.size, 0, none⟩ 1 1 [S x] rfl rfl HC1.out HC2.out bnd2 bnd (HC5.out _) ?_); intro v' w2 hown' hgrow _ _; have HF := Lib.hid (FIN.out _ v' w2 hown' hgrow); clear hown' hgrow)
    go_ret
    exact HF.out
  · have e1 : insB bs h x i = bs := by simp only [insB, if_neg hq]
    have en : (bndN h i : Int) = 0 := by simp only [bndN, if_neg hq]; rfl
    have FIN : Hid (InsPost A (insB bs h x i) w (.returned (.slice A n c)) w) := by
      show InsPost _ _ _ _ _
      rw [e1]
      exact ⟨A, c, by rw [hn], Fr.refl _ _, hb, .inl rfl⟩
    have HB := Lib.hid en
    clear e1 hn hb hq en
    go_enter Tryd.func36, Tryd.ntmps36
    go_wp2_with fail
    refine (boundIn_any h i 0 HB.out _hi _).mono ?_
    rintro e w' ⟨rfl, rfl⟩
    go_wp2_with fail
    go_ret
    exact FIN.out
end Go.Proofs.YthbidlcfahdfhaaDoor
