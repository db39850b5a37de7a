/- l1Match: what it keeps, and its way at compound types. -/
import Derived.Test.YthbidlcfahdfhaaInst
import Derived.Deep.RegionHeld3
namespace Go.Proofs.Ythbidlcfahdfhaa
open Go.RowKit Go.ChangeMaps

theorem mt_len (t : Ty) : ∀ (u : Ty) (ms ms' : List (Nat × Ty)), mt t u ms = some ms' → ms'.length ≤ ms.length + t.size := by
  induction t with
  | v n =>
    intro u ms ms' h
    rcases hs : asg ms n with _ | x
    · simp [mt, hs] at h
      subst h; simp [Ty.size]
    · simp [mt, hs] at h
      rw [← h.2]; omega
  | o =>
    intro u ms ms' h
    rw [mt_o] at h
    split at h
    · injection h with h; rw [← h]; omega
    · cases h
  | n f l r ihl ihr =>
    intro u ms ms' h
    cases u with
    | v n => simp [mt] at h
    | o => simp [mt] at h
    | n f' l' r' =>
      simp only [mt] at h
      split at h
      · rcases hm : mt l l' ms with _ | ms1
        · rw [hm] at h; cases h
        · rw [hm] at h
          have h1 := ihl _ _ _ hm
          have h2 := ihr _ _ _ h
          simp only [Ty.size]; omega
      · cases h

def OkM (ms : List (Nat × Ty)) : Prop := ∀ p ∈ ms, p.1 < 25 ∧ p.2.lets ∧ p.2.size ≤ 40

theorem mt_ok (t : Ty) : ∀ (u : Ty) (ms ms' : List (Nat × Ty)), t.lets → u.lets → u.size ≤ 40 → OkM ms → mt t u ms = some ms' → OkM ms' := by
  induction t with
  | v n =>
    intro u ms ms' ht hu hsz ho h
    rcases hs : asg ms n with _ | x
    · simp [mt, hs] at h
      subst h
      intro p hp
      rcases List.mem_append.1 hp with hp | hp
      · exact ho p hp
      · simp at hp; subst hp; exact ⟨ht, hu, hsz⟩
    · simp [mt, hs] at h
      rw [← h.2]; exact ho
  | o =>
    intro u ms ms' _ _ _ ho h
    rw [mt_o] at h
    split at h
    · injection h with h; rw [← h]; exact ho
    · cases h
  | n f l r ihl ihr =>
    intro u ms ms' ht hu hsz ho h
    cases u with
    | v n => simp [mt] at h
    | o => simp [mt] at h
    | n f' l' r' =>
      simp only [mt] at h
      simp only [Ty.size] at hsz
      split at h
      · rcases hm : mt l l' ms with _ | ms1
        · rw [hm] at h; cases h
        · rw [hm] at h
          exact ihr _ _ _ ht.2 hu.2 (by omega) (ihl _ _ _ ht.1 hu.1 (by omega) ho hm) h
      · cases h

/-- one of two rows -/
def Own2 (V U : Value) : Nat → Prop := fun b => V.ownBlock = some b ∨ U.ownBlock = some b

/-- what is put, in two rows of the call's own; T: the blocks of the trees -/
structure MS (w : World) (B : Nat) (T : Nat → Prop) (ms : List (Nat × Ty)) (V U : Value) : Prop where
  names : w.ownsRow B 9 1 V ms.length ((namesOf ms).map S)
  bys : ∃ ys, w.ownsRow B 49 2 U ms.length ys ∧ Elems w T (tysFo (ms.map Prod.snd)) ys

theorem MS.fr {w w' : World} {B : Nat} {T : Nat → Prop} {ms : List (Nat × Ty)} {V U : Value} (h : MS w B T ms V U) (hT : ∀ b, T b → b < w.heap.size) (hf : Fr No w w') : MS w' B T ms V U := by
  obtain ⟨h1, ys, h2, h3⟩ := h
  exact ⟨own_fr h1 hf (fun _ _ h => h), ys, own_fr h2 hf (fun _ _ h => h), h3.mono (fun _ h => h) (fun b hb => hf.block b (hT b hb) (fun h => h))⟩

theorem MS.lt {w : World} {B : Nat} {T : Nat → Prop} {ms : List (Nat × Ty)} {V U : Value} (h : MS w B T ms V U) : ∀ b, Own2 V U b → B ≤ b ∧ b < w.heap.size := by
  intro b hb
  obtain ⟨h1, ys, h2, _⟩ := h
  rcases hb with hb | hb
  · exact h1.lt b hb
  · exact h2.lt b hb

/-- the row is the old one, or new -/
def Loc (w : World) (V V' : Value) : Prop := V'.ownBlock = V.ownBlock ∨ ∀ b, V'.ownBlock = some b → w.heap.size ≤ b

def SmR (B : Nat) (T : Nat → Prop) (V U : Value) (r : Option (List (Nat × Ty))) (w : World) (e : Ending) (w' : World) : Prop :=
  ∃ N n nc M m mc, e = .returned (.tuple #[.slice N n nc, .slice M m mc, .bool r.isSome]) ∧ Fr (Own2 V U) w w' ∧
    ∀ ms', r = some ms' → n = ms'.length ∧ m = ms'.length ∧ MS w' B T ms' (.slice N n nc) (.slice M m mc) ∧ Loc w V (.slice N n nc) ∧ Loc w U (.slice M m mc)

def SmSaid (t : Ty) : Prop := ∀ (w : World) (T : Nat → Prop) (A : Option Addr) (c : Nat) (u : Ty) (A' : Option Addr) (c' B : Nat) (N : Option Addr) (nc : Nat) (M : Option Addr) (mc : Nat) (ms : List (Nat × Ty)) (n : Nat), n = ms.length →
  OkM ms → ms.length + t.size ≤ 1000 → u.lets → u.size ≤ 40 → B ≤ w.heap.size → (∀ b, T b → b < B) → Sl w T A t.kids → Sl w T A' u.kids → MS w B T ms (.slice N n nc) (.slice M n mc) →
  Calls Try.prog 73 #[.agg #[S t.atom, .slice A t.kids.len c], .agg #[S u.atom, .slice A' u.kids.len c'], .slice N n nc, .slice M n mc] w
    fun e w' => SmR B T (.slice N n nc) (.slice M n mc) (mt t u ms) w e w'

theorem atom_ne (u : Ty) (h : ∀ f l r, u ≠ .n f l r) : u.atom ≠ [] := by
  cases u with
  | v n => simp [Ty.atom]
  | o => simp [Ty.atom]
  | n f l r => exact (h f l r rfl).elim

/-- a compound type against what is none -/
theorem mt_n_atom (f : Bool) (l r u : Ty) (ms : List (Nat × Ty)) (h : ∀ f l r, u ≠ .n f l r) : mt (.n f l r) u ms = none := by
  cases u with
  | v n => simp [mt]
  | o => simp [mt]
  | n f' l' r' => exact (h f' l' r' rfl).elim

set_option maxRecDepth 100000 in
set_option maxHeartbeats 1000000 in
theorem sm_n_atom (f : Bool) (l r : Ty) (w : World) (T : Nat → Prop) (A : Option Addr) (c : Nat) (u : Ty) (A' : Option Addr) (c' B : Nat) (N : Option Addr) (nc : Nat) (M : Option Addr) (mc : Nat) (ms : List (Nat × Ty)) (n : Nat) (hu : ∀ f l r, u ≠ .n f l r) :
    Calls Try.prog 73 #[.agg #[S [], .slice A 3 c], .agg #[S u.atom, .slice A' u.kids.len c'], .slice N n nc, .slice M n mc] w
      fun e w' => SmR B T (.slice N n nc) (.slice M n mc) (mt (.n f l r) u ms) w e w' := by
  have FIN : Hid (∀ w', Fr No w w' → SmR B T (.slice N n nc) (.slice M n mc) (mt (.n f l r) u ms) w (.returned (.tuple #[.slice N n nc, .slice M n mc, .bool false])) w') := by
    intro w' hf
    rw [mt_n_atom f l r u ms hu]
    exact ⟨_, _, _, _, _, _, rfl, hf.mono (fun _ _ h => h.elim), fun ms' h => by cases h⟩
  have hne := atom_ne u hu
  have n1 : (u.atom == []) = false := by simpa using hne
  have n2 : (([] : List UInt8) == u.atom) = false := by simpa using hne
  have b0 := (Blk.new w 49 #[S [], .slice A 3 c]).alloc (.cells #[S u.atom, .slice A' u.kids.len c'] 49)
  have b1 : Blk ((w.alloc (.cells #[S [], .slice A 3 c] 49)).alloc (.cells #[S u.atom, .slice A' u.kids.len c'] 49)) (w.heap.size + 1) 49 #[S u.atom, .slice A' u.kids.len c'] := Blk.new_at _ _ _ (by simp)
  have c0 := b0.cell 0
  have c1 := b1.cell 0
  have hf0 : Fr No w ((w.alloc (.cells #[S [], .slice A 3 c] 49)).alloc (.cells #[S u.atom, .slice A' u.kids.len c'] 49)) := ((Fr.refl _ _).alloc _).alloc _
  have HV : Hid (isVar [] = false) := rfl
  have HVL : Hid (([] : List UInt8).length ≤ maxLen) := Nat.zero_le _
  clear hne hu b0 b1
  generalize u.atom = ua at n1 n2 c0 c1 hf0 ⊢
  generalize u.kids.len = ul at c0 c1 hf0 ⊢
  change _ = some (S []) at c0
  change _ = some (S ua) at c1
  go_enter Try.func73, Try.ntmps73
  go_wp2_with fail
  generalize ((w.alloc (.cells #[S [], .slice A 3 c] 49)).alloc (.cells #[S ua, .slice A' ul c'] 49)) = W at c0 c1 hf0 ⊢
  refine (var_any2 [] _ HVL.out).mono ?_
  rintro e w' ⟨rfl, rfl⟩
  rw [HV.out]
  go_wp2_with fail
  go_region
  all_goals go_wp2_with fail
  refine bodyPost_ret (v := .tuple #[.slice N n nc, .slice M n mc, .bool false]) (by simp [results, Try.results73, go_sem]) rfl ?_
  exact FIN.out _ hf0.drew

theorem Loc.trans {w w' : World} {V V1 V2 : Value} (h : Loc w V V1) (h' : Loc w' V1 V2) (hs : w.heap.size ≤ w'.heap.size) : Loc w V V2 := by
  rcases h' with h' | h'
  · rcases h with h | h
    · exact .inl (h'.trans h)
    · exact .inr fun b hb => h b (h' ▸ hb)
  · exact .inr fun b hb => Nat.le_trans hs (h' b hb)

theorem Fr.own2 {w w3 w5 : World} {V U V1 U1 : Value} (h : Fr (Own2 V U) w w3) (h' : Fr (Own2 V1 U1) w3 w5) (hv : Loc w V V1) (hu : Loc w U U1) : Fr (Own2 V U) w w5 := by
  refine h.then_ h' (fun i hi e => ?_)
  rcases e with e | e
  · rcases hv with hv | hv
    · exact .inl (hv ▸ e)
    · have := hv i e; omega
  · rcases hu with hu | hu
    · exact .inr (hu ▸ e)
    · have := hu i e; omega

theorem mt_n_sign {f f' : Bool} (l r l' r' : Ty) (ms : List (Nat × Ty)) (h : f ≠ f') : mt (.n f l r) (.n f' l' r') ms = none := by simp [mt, h]

/-- the cells of two compound types, and of their boxes -/
structure Kids2 (w' : World) (z g o g' o' : Nat) (f f' : Bool) (l r l' r' : Ty) (c c' : Nat) (A1 A2 A1' A2' : Option Addr) (c1 c2 c1' c2' : Nat) : Prop where
  x0 : w'.cell? ⟨z, 0, none⟩ = some (S [])
  x1 : w'.cell? ⟨z, 1, none⟩ = some (.slice (some ⟨g, o, none⟩) 3 c)
  y0 : w'.cell? ⟨z + 1, 0, none⟩ = some (S [])
  y1 : w'.cell? ⟨z + 1, 1, none⟩ = some (.slice (some ⟨g', o', none⟩) 3 c')
  p0 : w'.cell? ⟨g, o, none⟩ = some (S [Ty.sign f])
  p2 : w'.cell? ⟨g, o + 2, none⟩ = some (S l.atom)
  p3 : w'.cell? ⟨g, o + 3, none⟩ = some (.slice A1 l.kids.len c1)
  p4 : w'.cell? ⟨g, o + 4, none⟩ = some (S r.atom)
  p5 : w'.cell? ⟨g, o + 5, none⟩ = some (.slice A2 r.kids.len c2)
  q0 : w'.cell? ⟨g', o', none⟩ = some (S [Ty.sign f'])
  q2 : w'.cell? ⟨g', o' + 2, none⟩ = some (S l'.atom)
  q3 : w'.cell? ⟨g', o' + 3, none⟩ = some (.slice A1' l'.kids.len c1')
  q4 : w'.cell? ⟨g', o' + 4, none⟩ = some (S r'.atom)
  q5 : w'.cell? ⟨g', o' + 5, none⟩ = some (.slice A2' r'.kids.len c2')

set_option maxRecDepth 100000 in
set_option maxHeartbeats 2000000 in
theorem sm_n (f : Bool) (l r : Ty) (hl : l.lets) (ihl : SmSaid l) (ihr : SmSaid r) : SmSaid (.n f l r) := by
  intro w T A c u A' c' B N nc M mc ms n hn hok hlen hu hsz hB hT hA hA' hms
  by_cases hnn : ∀ f l r, u ≠ .n f l r
  · exact sm_n_atom f l r w T A c u A' c' B N nc M mc ms n hnn
  · obtain ⟨f', l', r', rfl⟩ : ∃ f' l' r', u = .n f' l' r' := by
      cases u with
      | v n => exact (hnn fun f l r e => by cases e).elim
      | o => exact (hnn fun f l r e => by cases e).elim
      | n f' l' r' => exact ⟨f', l', r', rfl⟩
    clear hnn
    simp only [Ty.size] at hsz hlen
    rw [Ty.kids_n] at hA hA'
    obtain ⟨g, o, A0, c0, A1, c1, A2, c2, rfl, hg, q0, q1, q2, q3, q4, q5, s0, s1, s2, hgl⟩ := hA.three
    obtain ⟨g', o', A0', c0', A1', c1', A2', c2', rfl, hg', q0', q1', q2', q3', q4', q5', s0', s1', s2', hgl'⟩ := hA'.three
    have hkl : (Ty.n f l r).kids.len = 3 := rfl
    have hkl' : (Ty.n f' l' r').kids.len = 3 := rfl
    rw [hkl, hkl', Ty.atom_n, Ty.atom_n]
    obtain ⟨V, hV⟩ : ∃ V, V = Value.slice N n nc := ⟨_, rfl⟩
    obtain ⟨U, hU⟩ : ∃ U, U = Value.slice M n mc := ⟨_, rfl⟩
    have hlt := hms.lt
    rw [← hV, ← hU] at hlt hms
    have b0 := (Blk.new w 49 #[S [], .slice (some ⟨g, o, none⟩) 3 c]).alloc (.cells #[S [], .slice (some ⟨g', o', none⟩) 3 c'] 49)
    have b1 : Blk ((w.alloc (.cells #[S [], .slice (some ⟨g, o, none⟩) 3 c] 49)).alloc (.cells #[S [], .slice (some ⟨g', o', none⟩) 3 c'] 49)) (w.heap.size + 1) 49 #[S [], .slice (some ⟨g', o', none⟩) 3 c'] := Blk.new_at _ _ _ (by simp)
    have hf0 : Fr No w ((w.alloc (.cells #[S [], .slice (some ⟨g, o, none⟩) 3 c] 49)).alloc (.cells #[S [], .slice (some ⟨g', o', none⟩) 3 c'] 49)) := ((Fr.refl _ _).alloc _).alloc _
    have HV : Hid (isVar [] = false) := rfl
    have HVL : Hid (([] : List UInt8).length ≤ maxLen) := Nat.zero_le _
    have hTo : ∀ b, T b → ¬ Own2 V U b := fun b hb e => by have := hT b hb; have := (hlt b e).1; omega
    have hTw : ∀ b, T b → b < w.heap.size := fun b hb => Nat.lt_of_lt_of_le (hT b hb) hB
    have CELLS : Hid (∀ w', Fr (Own2 V U) ((w.alloc (.cells #[S [], .slice (some ⟨g, o, none⟩) 3 c] 49)).alloc (.cells #[S [], .slice (some ⟨g', o', none⟩) 3 c'] 49)) w' → Kids2 w' w.heap.size g o g' o' f f' l r l' r' c c' A1 A2 A1' A2' c1 c2 c1' c2' ∧ (g < w'.heap.size ∧ g' < w'.heap.size ∧ w.heap.size < w'.heap.size ∧ w.heap.size + 1 < w'.heap.size)) := by
      intro w' hf
      have hfw : Fr (Own2 V U) w w' := (hf0.mono (fun _ _ h => h.elim)).trans hf
      have d0 := b0.fr hf (fun e => by have := (hlt _ e).2; omega)
      have d1 := b1.fr hf (fun e => by have := (hlt _ e).2; omega)
      have hgo := hTo g hg
      have hgo' := hTo g' hg'
      exact ⟨⟨(d0.cell 0).trans rfl, (d0.cell 1).trans rfl, (d1.cell 0).trans rfl, (d1.cell 1).trans rfl,
        (hfw.cell (p := ⟨g, o, none⟩) hgl hgo).trans q0, (hfw.cell (p := ⟨g, o + 2, none⟩) hgl hgo).trans q2, (hfw.cell (p := ⟨g, o + 3, none⟩) hgl hgo).trans q3, (hfw.cell (p := ⟨g, o + 4, none⟩) hgl hgo).trans q4, (hfw.cell (p := ⟨g, o + 5, none⟩) hgl hgo).trans q5,
        (hfw.cell (p := ⟨g', o', none⟩) hgl' hgo').trans q0', (hfw.cell (p := ⟨g', o' + 2, none⟩) hgl' hgo').trans q2', (hfw.cell (p := ⟨g', o' + 3, none⟩) hgl' hgo').trans q3', (hfw.cell (p := ⟨g', o' + 4, none⟩) hgl' hgo').trans q4', (hfw.cell (p := ⟨g', o' + 5, none⟩) hgl' hgo').trans q5'⟩,
        Nat.lt_of_lt_of_le hgl hfw.size, Nat.lt_of_lt_of_le hgl' hfw.size, d0.lt, d1.lt⟩
    have IL : Hid (∀ w', Fr No w w' → Calls Try.prog 73 #[.agg #[S l.atom, .slice A1 l.kids.len c1], .agg #[S l'.atom, .slice A1' l'.kids.len c1'], .slice N n nc, .slice M n mc] w' fun e w2 => SmR B T V U (mt l l' ms) w' e w2) := by
      intro w' hf
      rw [hV, hU]
      refine ihl w' T A1 c1 l' A1' c1' B N nc M mc ms n hn hok (by omega) hu.1 (by omega) (Nat.le_trans hB hf.size) hT (s1.keepT hTw hf) (s1'.keepT hTw hf) ?_
      rw [← hV, ← hU]
      exact hms.fr hTw hf
    have SL : Hid (∀ w', Fr (Own2 V U) w w' → Sl w' T A2 r.kids ∧ Sl w' T A2' r'.kids) := fun w' hf =>
      ⟨s2.mono (fun _ h => h) (fun b hb => hf.block b (hTw b hb) (hTo b hb)), s2'.mono (fun _ h => h) (fun b hb => hf.block b (hTw b hb) (hTo b hb))⟩
    suffices GO : Calls Try.prog 73 #[.agg #[S [], .slice (some ⟨g, o, none⟩) 3 c], .agg #[S [], .slice (some ⟨g', o', none⟩) 3 c'], .slice N n nc, .slice M n mc] w
        fun e w' => SmR B T V U (mt (.n f l r) (.n f' l' r') ms) w e w' by subst hV; subst hU; exact GO
    have WAY : Hid (∀ w', Fr No ((w.alloc (.cells #[S [], .slice (some ⟨g, o, none⟩) 3 c] 49)).alloc (.cells #[S [], .slice (some ⟨g', o', none⟩) 3 c'] 49)) w' → Fr (Own2 V U) ((w.alloc (.cells #[S [], .slice (some ⟨g, o, none⟩) 3 c] 49)).alloc (.cells #[S [], .slice (some ⟨g', o', none⟩) 3 c'] 49)) w' ∧ Fr No w w') := fun w' h => ⟨h.mono (fun _ _ h => h.elim), hf0.trans h⟩
    have NOK : Hid (mt (.n f l r) (.n f' l' r') ms = none → ∀ w' N1 n1 nc1 M1 m1 mc1, Fr (Own2 V U) ((w.alloc (.cells #[S [], .slice (some ⟨g, o, none⟩) 3 c] 49)).alloc (.cells #[S [], .slice (some ⟨g', o', none⟩) 3 c'] 49)) w' → SmR B T V U (mt (.n f l r) (.n f' l' r') ms) w (.returned (.tuple #[.slice N1 n1 nc1, .slice M1 m1 mc1, .bool false])) w') := by
      intro e w' N1 n1 nc1 M1 m1 mc1 h
      rw [e]
      exact ⟨_, _, _, _, _, _, rfl, (hf0.mono (fun _ _ h => h.elim)).trans h, fun ms' h => by cases h⟩
    by_cases hff : f = f'
    · subst hff
      rcases hm : mt l l' ms with _ | ms1
      · have IL2 : Hid (∀ w', Fr No ((w.alloc (.cells #[S [], .slice (some ⟨g, o, none⟩) 3 c] 49)).alloc (.cells #[S [], .slice (some ⟨g', o', none⟩) 3 c'] 49)) w' → Calls Try.prog 73 #[.agg #[S l.atom, .slice A1 l.kids.len c1], .agg #[S l'.atom, .slice A1' l'.kids.len c1'], .slice N n nc, .slice M n mc] w'
            fun e w2 => ∃ N1 n1 nc1 M1 m1 mc1, e = .returned (.tuple #[.slice N1 n1 nc1, .slice M1 m1 mc1, .bool false]) ∧ Fr (Own2 V U) ((w.alloc (.cells #[S [], .slice (some ⟨g, o, none⟩) 3 c] 49)).alloc (.cells #[S [], .slice (some ⟨g', o', none⟩) 3 c'] 49)) w2) := fun w' hf =>
          (IL.out w' (hf0.trans hf)).mono fun e w2 ⟨N1, n1, nc1, M1, m1, mc1, h1, h2, _⟩ => ⟨N1, n1, nc1, M1, m1, mc1, by rw [h1, hm]; rfl, (hf.mono (fun _ _ h => h.elim)).trans h2⟩
        have NOK2 := Lib.hid (NOK.out (by simp [mt, hm]))
        clear hA hA' hms hok hn IL SL hlt hTo hTw q0 q1 q2 q3 q4 q5 q0' q1' q2' q3' q4' q5' s0 s1 s2 s0' s1' s2' b0 b1 ihl ihr hkl hkl' hlen hsz hm hf0 hV hU NOK
        generalize mt (.n f l r) (.n f l' r') ms = res at NOK2 ⊢
        go_enter Try.func73, Try.ntmps73
        go_wp2_with fail
        generalize ((w.alloc (.cells #[S [], .slice (some ⟨g, o, none⟩) 3 c] 49)).alloc (.cells #[S [], .slice (some ⟨g', o', none⟩) 3 c'] 49)) = W at *
        obtain ⟨⟨x0, x1, y0, y1, p0, p2, p3, p4, p5, q0, q2, q3, q4, q5⟩, l1, l2, l3, l4⟩ := CELLS.out W (Fr.refl _ _)
        refine (var_any2 [] _ HVL.out).mono ?_
        rintro e w' ⟨rfl, rfl⟩
        rw [HV.out]
        go_wp2_with fail
        go_region
        all_goals go_wp2_with fail
        go_region_held3 (fun w' => w'.cell? ⟨w.heap.size, 1, none⟩ = some (.slice (some ⟨g, o, none⟩) 3 c) ∧ w'.cell? ⟨w.heap.size + 1, 1, none⟩ = some (.slice (some ⟨g', o', none⟩) 3 c') ∧ w'.cell? ⟨g, o + 2, none⟩ = some (S l.atom) ∧ w'.cell? ⟨g, o + 3, none⟩ = some (.slice A1 l.kids.len c1) ∧ w'.cell? ⟨g', o' + 2, none⟩ = some (S l'.atom) ∧ w'.cell? ⟨g', o' + 3, none⟩ = some (.slice A1' l'.kids.len c1')) (go_keep)
          (first | (go_at_call 73; ((with_reducible refine (IL2.out _ (((Fr.refl _ _).drew).drew)).mono ?_); rintro e1 w1 ⟨N1, n1, nc1, M1, m1, mc1, rfl, hf1⟩; obtain ⟨⟨x0', x1', y0', y1', p0', p2', p3', p4', p5', q0', q2', q3', q4', q5'⟩, l1', l2', l3', l4'⟩ := CELLS.out w1 hf1; have HF1 := Lib.hid hf1; clear hf1)))
        go_wp2_with fail
        refine bodyPost_ret (v := .tuple #[.slice N1 n1 nc1, .slice M1 m1 mc1, .bool false]) (by simp [results, Try.results73, go_sem]) rfl ?_
        exact NOK2.out _ _ _ _ _ _ _ HF1.out
      · have hlen1 := mt_len l l' ms ms1 hm
        have hok1 := mt_ok l l' ms ms1 hl hu.1 (by omega) hok hm
        have hres : mt (.n f l r) (.n f l' r') ms = mt r r' ms1 := by simp [mt, hm]
        obtain ⟨k, hk⟩ : ∃ k, k = ms1.length := ⟨_, rfl⟩
        have IL3 : Hid (∀ w', Fr No ((w.alloc (.cells #[S [], .slice (some ⟨g, o, none⟩) 3 c] 49)).alloc (.cells #[S [], .slice (some ⟨g', o', none⟩) 3 c'] 49)) w' → Calls Try.prog 73 #[.agg #[S l.atom, .slice A1 l.kids.len c1], .agg #[S l'.atom, .slice A1' l'.kids.len c1'], .slice N n nc, .slice M n mc] w'
            fun e w2 => ∃ N1 nc1 M1 mc1, e = .returned (.tuple #[.slice N1 k nc1, .slice M1 k mc1, .bool true]) ∧ Fr (Own2 V U) ((w.alloc (.cells #[S [], .slice (some ⟨g, o, none⟩) 3 c] 49)).alloc (.cells #[S [], .slice (some ⟨g', o', none⟩) 3 c'] 49)) w2 ∧ MS w2 B T ms1 (.slice N1 k nc1) (.slice M1 k mc1) ∧ Loc ((w.alloc (.cells #[S [], .slice (some ⟨g, o, none⟩) 3 c] 49)).alloc (.cells #[S [], .slice (some ⟨g', o', none⟩) 3 c'] 49)) V (.slice N1 k nc1) ∧ Loc ((w.alloc (.cells #[S [], .slice (some ⟨g, o, none⟩) 3 c] 49)).alloc (.cells #[S [], .slice (some ⟨g', o', none⟩) 3 c'] 49)) U (.slice M1 k mc1)) := fun w' hf =>
          (IL.out w' (hf0.trans hf)).mono fun e w2 ⟨N1, n1, nc1, M1, m1, mc1, h1, h2, h3⟩ => by
            obtain ⟨rfl, rfl, h4, h5, h6⟩ := h3 ms1 hm
            rw [← hk] at h1 h4 h5 h6
            have hs := hf.size
            exact ⟨N1, nc1, M1, mc1, by rw [h1, hm]; rfl, (hf.mono (fun _ _ h => h.elim)).trans h2, h4, Loc.trans (.inl rfl) h5 hs, Loc.trans (.inl rfl) h6 hs⟩
        have IR : Hid (∀ w2 N1 nc1 M1 mc1, Fr (Own2 V U) ((w.alloc (.cells #[S [], .slice (some ⟨g, o, none⟩) 3 c] 49)).alloc (.cells #[S [], .slice (some ⟨g', o', none⟩) 3 c'] 49)) w2 → MS w2 B T ms1 (.slice N1 k nc1) (.slice M1 k mc1) → Loc ((w.alloc (.cells #[S [], .slice (some ⟨g, o, none⟩) 3 c] 49)).alloc (.cells #[S [], .slice (some ⟨g', o', none⟩) 3 c'] 49)) V (.slice N1 k nc1) → Loc ((w.alloc (.cells #[S [], .slice (some ⟨g, o, none⟩) 3 c] 49)).alloc (.cells #[S [], .slice (some ⟨g', o', none⟩) 3 c'] 49)) U (.slice M1 k mc1) → ∀ w4, Fr No w2 w4 →
            Calls Try.prog 73 #[.agg #[S r.atom, .slice A2 r.kids.len c2], .agg #[S r'.atom, .slice A2' r'.kids.len c2'], .slice N1 k nc1, .slice M1 k mc1] w4
              fun e w5 => ∃ N2 n2 nc2 M2 m2 mc2 b, e = .returned (.tuple #[.slice N2 n2 nc2, .slice M2 m2 mc2, .bool b]) ∧ Fr (Own2 V U) ((w.alloc (.cells #[S [], .slice (some ⟨g, o, none⟩) 3 c] 49)).alloc (.cells #[S [], .slice (some ⟨g', o', none⟩) 3 c'] 49)) w5 ∧ SmR B T V U (mt (.n f l r) (.n f l' r') ms) w (.returned (.tuple #[.slice N2 n2 nc2, .slice M2 m2 mc2, .bool b])) w5) := by
          intro w2 N1 nc1 M1 mc1 hf2 hm2 hv2' hu2' w4 hf4
          have hv2 : Loc w V (.slice N1 k nc1) := Loc.trans (.inl rfl) hv2' hf0.size
          have hu2 : Loc w U (.slice M1 k mc1) := Loc.trans (.inl rfl) hu2' hf0.size
          have hfw : Fr (Own2 V U) w w2 := (hf0.mono (fun _ _ h => h.elim)).trans hf2
          have hs2 := hfw.size
          have hT2 : ∀ b, T b → b < w2.heap.size := fun b hb => Nat.lt_of_lt_of_le (hTw b hb) hs2
          obtain ⟨t2, t2'⟩ := SL.out w2 hfw
          have hf24 : Fr (Own2 V U) w w4 := hfw.trans (hf4.mono (fun _ _ h => h.elim))
          refine (ihr w4 T A2 c2 r' A2' c2' B N1 nc1 M1 mc1 ms1 k hk hok1 (by omega) hu.2 (by omega) (Nat.le_trans hB hf24.size) hT (t2.keepT hT2 hf4) (t2'.keepT hT2 hf4) (hm2.fr hT2 hf4)).mono ?_
          rintro e w5 ⟨N2, n2, nc2, M2, m2, mc2, rfl, g1, g2⟩
          refine ⟨N2, n2, nc2, M2, m2, mc2, _, rfl, ?_, N2, n2, nc2, M2, m2, mc2, by rw [hres], hf24.own2 g1 hv2 hu2, ?_⟩
          · have h1 := hf2.trans (hf4.mono (T := Own2 V U) (fun _ _ h => h.elim))
            refine h1.then_ g1 (fun i hi e => ?_)
            rcases e with e | e
            · rcases hv2' with hv | hv
              · exact .inl (hv ▸ e)
              · have := hv i e; omega
            · rcases hu2' with hu | hu
              · exact .inr (hu ▸ e)
              · have := hu i e; omega
          · intro ms' h
            rw [hres] at h
            obtain ⟨e1, e2, e3, e4, e5⟩ := g2 ms' h
            exact ⟨e1, e2, e3, Loc.trans hv2 e4 hf24.size, Loc.trans hu2 e5 hf24.size⟩
        clear hA hA' hms hok hn IL SL hlt hTo hTw q0 q1 q2 q3 q4 q5 q0' q1' q2' q3' q4' q5' s0 s1 s2 s0' s1' s2' b0 b1 ihl ihr hkl hkl' hlen hsz hm hf0 hV hU NOK hlen1 hok1 hres hk
        generalize mt (.n f l r) (.n f l' r') ms = res at IR ⊢
        go_enter Try.func73, Try.ntmps73
        go_wp2_with fail
        generalize ((w.alloc (.cells #[S [], .slice (some ⟨g, o, none⟩) 3 c] 49)).alloc (.cells #[S [], .slice (some ⟨g', o', none⟩) 3 c'] 49)) = W at *
        obtain ⟨⟨x0, x1, y0, y1, p0, p2, p3, p4, p5, q0, q2, q3, q4, q5⟩, l1, l2, l3, l4⟩ := CELLS.out W (Fr.refl _ _)
        refine (var_any2 [] _ HVL.out).mono ?_
        rintro e w' ⟨rfl, rfl⟩
        rw [HV.out]
        go_wp2_with fail
        go_region
        all_goals go_wp2_with fail
        go_region_held3 (fun w' => w'.cell? ⟨w.heap.size, 1, none⟩ = some (.slice (some ⟨g, o, none⟩) 3 c) ∧ w'.cell? ⟨w.heap.size + 1, 1, none⟩ = some (.slice (some ⟨g', o', none⟩) 3 c') ∧ w'.cell? ⟨g, o + 2, none⟩ = some (S l.atom) ∧ w'.cell? ⟨g, o + 3, none⟩ = some (.slice A1 l.kids.len c1) ∧ w'.cell? ⟨g', o' + 2, none⟩ = some (S l'.atom) ∧ w'.cell? ⟨g', o' + 3, none⟩ = some (.slice A1' l'.kids.len c1')) (go_keep)
          (first | (go_at_call 73; ((with_reducible refine (IL3.out _ (((Fr.refl _ _).drew).drew)).mono ?_); rintro e1 w1 ⟨N1, nc1, M1, mc1, rfl, hf1, hm1, hv1, hu1⟩; obtain ⟨⟨x0', x1', y0', y1', p0', p2', p3', p4', p5', q0', q2', q3', q4', q5'⟩, l1', l2', l3', l4'⟩ := CELLS.out w1 hf1; have IR2 := Lib.hid (IR.out w1 N1 nc1 M1 mc1 hf1 hm1 hv1 hu1); clear hf1 hm1 hv1 hu1)))
        go_wp2_with fail
        go_region_held3 (fun w' => w'.cell? ⟨w.heap.size, 1, none⟩ = some (.slice (some ⟨g, o, none⟩) 3 c) ∧ w'.cell? ⟨w.heap.size + 1, 1, none⟩ = some (.slice (some ⟨g', o', none⟩) 3 c') ∧ w'.cell? ⟨g, o + 4, none⟩ = some (S r.atom) ∧ w'.cell? ⟨g, o + 5, none⟩ = some (.slice A2 r.kids.len c2) ∧ w'.cell? ⟨g', o' + 4, none⟩ = some (S r'.atom) ∧ w'.cell? ⟨g', o' + 5, none⟩ = some (.slice A2' r'.kids.len c2')) (go_keep)
          (first | (go_at_call 73; ((with_reducible refine (IR2.out _ ((Fr.refl _ _).drew)).mono ?_); rintro e2 w2 ⟨N2, n2, nc2, M2, m2, mc2, b, rfl, hf2, hr2⟩; obtain ⟨⟨x0'', x1'', y0'', y1'', p0'', p2'', p3'', p4'', p5'', q0'', q2'', q3'', q4'', q5''⟩, l1'', l2'', l3'', l4''⟩ := CELLS.out w2 hf2; have HR2 := Lib.hid hr2; clear hf2 hr2)))
        go_wp2_with fail
        refine bodyPost_ret (v := .tuple #[.slice N2 n2 nc2, .slice M2 m2 mc2, .bool b]) (by simp [results, Try.results73, go_sem]) rfl ?_
        exact HR2.out
    · have hd : ([Ty.sign f] == [Ty.sign f']) = false := by
        simp
        exact fun e => hff (Ty.sign_inj e)
      have NOK2 := Lib.hid (NOK.out (mt_n_sign l r l' r' ms hff))
      clear hA hA' hms hok hn IL SL hlt hTo hTw q0 q1 q2 q3 q4 q5 q0' q1' q2' q3' q4' q5' s0 s1 s2 s0' s1' s2' b0 b1 ihl ihr hkl hkl' hlen hsz hf0 hV hU NOK hff
      generalize mt (.n f l r) (.n f' l' r') ms = res at NOK2 ⊢
      go_enter Try.func73, Try.ntmps73
      go_wp2_with fail
      generalize ((w.alloc (.cells #[S [], .slice (some ⟨g, o, none⟩) 3 c] 49)).alloc (.cells #[S [], .slice (some ⟨g', o', none⟩) 3 c'] 49)) = W at *
      obtain ⟨⟨x0, x1, y0, y1, p0, p2, p3, p4, p5, q0, q2, q3, q4, q5⟩, l1, l2, l3, l4⟩ := CELLS.out W (Fr.refl _ _)
      refine (var_any2 [] _ HVL.out).mono ?_
      rintro e w' ⟨rfl, rfl⟩
      rw [HV.out]
      go_wp2_with fail
      go_region
      all_goals go_wp2_with fail
      refine bodyPost_ret (v := .tuple #[.slice N n nc, .slice M n mc, .bool false]) (by simp [results, Try.results73, go_sem]) rfl ?_
      exact NOK2.out _ _ _ _ _ _ _ (Fr.refl _ _).drew
end Go.Proofs.Ythbidlcfahdfhaa
