/- The program's canonical names: fresh. · The program's renaming of bound names. · TermCanon of the program. · TermAlike of the program: as what lam and let call their names is all that is not compared. -/
import Derived.Test.YtnjgaenhjdjpfaaGreatDoorTrn
import Derived.Test.YtnjgaenhjdjpfaaGreatDoorTfree
import Derived.Test.YtnjgaenhjdjpfaaGreatDoorStext
import Derived.Test.YtnjgaenhjdjpfaaGreatDoorShelf
import Derived.Lib.AppendIntMem
import Derived.Test.YtnjgaenhjdjpfaaGreatDoorTimpl
import Derived.Test.YtnjgaenhjdjpfaaGreatDoorTkids
import Derived.Test.YtnjgaenhjdjpfaaGreatDoorTuse
import Derived.BigQuiet
import Derived.Deep.RegionHeld3
/- The program's canonical names: fresh. -/
namespace Go.Proofs.YtnjgaenhjdjpfaaGreatDoor
open Go.RowKit Go.ChangeMaps

/-- the library's table reads as it is laid, whatever is done from a block on -/
abbrev Tb (B : Nat) (w : World) : Prop := Lib.TabBelow Tryz.prog B w "internal/strconv.uint64pow10" .u64 Lib.pow10Tab

theorem Tb.fr {B : Nat} {w w' : World} {T : Nat → Prop} (h : Tb B w) (hf : Fr T w w') (hB : B ≤ w.heap.size) (hT : ∀ k, T k → B ≤ k) : Tb B w' := h.on (hf.below hB hT)

theorem SSl.frT {w w' : World} {A : Option Addr} {xs : List (List UInt8)} {T : Nat → Prop} (h : SSl w A xs) (hf : Fr T w w') (hT : ∀ g o, A = some ⟨g, o, none⟩ → ¬ T g) : SSl w' A xs := NSl.fr (show NSl w A xs from h) hf hT

theorem itoa_any (B : Nat) (n : Nat) (hn : n ≤ 100000) (w : World) (ht : Tb B w) :
    Calls Tryz.prog 86 #[.int .i64 n] w fun e w' => e = .returned (S (Lib.decDigits n)) ∧ Fr No w w' := by
  refine (Tryz.strconv_Itoa (n : Int) (by omega) (by omega) w ht.here).mono ?_
  rintro e w' ⟨rfl, k, os, rfl⟩
  have e1 : Lib.itoa (n : Int) = Lib.decDigits n := by
    unfold Lib.itoa
    rw [if_neg (by omega)]
    rfl
  exact ⟨by rw [e1], Fr.of_below (Lib.below_grow _ w (Nat.le_refl _) k os) (Nat.le_refl _) _⟩

def FshP (tk : List (List UInt8)) (m : Nat) (A : Option Addr) (c g : Nat) (w : World) (e : Ending) (w' : World) : Prop :=
  e = .returned (S (xnm (fsh tk g))) ∧ Fr (One m) w w' ∧ Blk w' m 56 #[.slice A tk.length c, .int .i64 ((fsh tk g + 1 : Nat) : Int)]

theorem fsh_here {tk : List (List UInt8)} {g i : Nat} (h1 : g ≤ i) (h2 : i ≤ fsh tk g) (h3 : xnm i ∉ tk) : i = fsh tk g := by
  obtain ⟨a, b, c⟩ := fsh_spec tk g
  by_cases h : i < fsh tk g
  · exact absurd (b i h1 h) h3
  · omega

theorem fsh_past {tk : List (List UInt8)} {g i : Nat} (h2 : i ≤ fsh tk g) (h3 : xnm i ∈ tk) : i + 1 ≤ fsh tk g := by
  obtain ⟨a, b, c⟩ := fsh_spec tk g
  by_cases h : i = fsh tk g
  · rw [h] at h3; exact absurd h3 c
  · omega

set_option maxRecDepth 100000 in
set_option maxHeartbeats 1000000 in
theorem fresh_any (w : World) (B m : Nat) (A : Option Addr) (c g : Nat) (tk : List (List UInt8)) (hB : B ≤ m) (ht : Tb B w) (hb : Blk w m 56 #[.slice A tk.length c, .int .i64 (g : Int)])
    (hx : SSl w A tk) (hA : ∀ b o, A = some ⟨b, o, none⟩ → b ≠ m) (hl : tk.length ≤ 1000) (hg : fsh tk g ≤ 5000) :
    Calls Tryz.prog 59 #[Ptr m] w fun e w' => FshP tk m A c g w e w' := by
  have hlt := hb.lt
  have HT := Lib.hid ht
  have HB := Lib.hid hB
  have HX := Lib.hid hx
  have HA := Lib.hid hA
  have HK := Lib.hid hb
  have HL := Lib.hid hl
  obtain ⟨l, hln⟩ : ∃ l, tk.length = l := ⟨_, rfl⟩
  have HLN := Lib.hid hln
  clear ht hB hx hA hb hl
  go_enter Tryz.func59, Tryz.ntmps59
  go_wp2_with fail
  go_loopw [3] (fun _ wr => ∃ i : Nat, g ≤ i ∧ i ≤ fsh tk g ∧ Fr (One m) w wr ∧ Blk wr m 56 #[.slice A tk.length c, .int .i64 (i : Int)]) (fun _ wr => fsh tk g - (intOf ((wr.cell? ⟨m, 1, none⟩).getD undef)).toNat)
  case atStart => exact ⟨g, Nat.le_refl _, (fsh_spec tk g).1, Fr.refl _ _, HK.out⟩
  case round =>
    obtain ⟨i, hgi, hif, hfr, hblk⟩ := hrel
    rw [hln] at hblk
    have c1 : wr.cell? ⟨m, 1, none⟩ = some (.int .i64 (i : Int)) := (hblk.cell 1).trans rfl
    have l1 := hblk.lt
    have i1 : (i : Int) ≤ 5000 := by omega
    have dl : (Lib.decDigits i).length ≤ 4 := dec_len i 3 (by omega)
    have HFR := Lib.hid hfr
    have HBK := Lib.hid hblk
    have ITO : Hid (Calls Tryz.prog 86 #[.int .i64 i] wr fun e w' => e = .returned (S (Lib.decDigits i)) ∧ Fr No wr w') :=
      itoa_any B i (by omega) wr (HT.out.fr hfr (by have := HB.out; omega) (fun k hk => by unfold One at hk; have := HB.out; omega))
    have AFT : Hid (∀ w1, Fr No wr w1 → w1.cell? ⟨m, 1, none⟩ = some (.int .i64 (i : Int)) ∧ w1.frozen? ⟨m, 1, none⟩ = false ∧ m < w1.heap.size ∧ Fr (One m) w (w1.setCell ⟨m, 1, none⟩ (.int .i64 ((i : Int) + 1))) ∧
        Blk (w1.setCell ⟨m, 1, none⟩ (.int .i64 ((i : Int) + 1))) m 56 #[.slice A l c, .int .i64 ((i : Int) + 1)]) := by
      intro w1 hf
      have hb1 := HBK.out.fr hf (fun h => h)
      refine ⟨(hb1.cell 1).trans rfl, hb1.frozen 1, hb1.lt, (HFR.out.then_ hf (fun _ _ h => h.elim)).setCell (p := ⟨m, 1, none⟩) (.inl rfl) _, ?_⟩
      exact hb1.set_ 1 (.int .i64 ((i : Int) + 1))
    have CON : Hid (∀ (W : World) (x : ByteArray), Fr (One m) w W → x.data.toList = xnm i → Calls Tryz.prog 80 #[.slice A l c, .string x] W fun e w' => HasS tk (xnm i) W e w') := by
      intro W x hf hx
      rw [show Value.string x = S (xnm i) from val_str hx, ← hln]
      exact contains_s W A tk c (xnm i) (HX.out.frT hf (fun b o e h => HA.out b o e h)) (by have := HL.out; omega)
    clear hfr hblk hln
    go_wp2_with fail
    refine ITO.out.mono ?_
    rintro e w1 ⟨rfl, hf1⟩
    obtain ⟨d1, d2, d3, d4, d5⟩ := AFT.out w1 hf1
    have e0 : (w1.setCell ⟨m, 1, none⟩ (.int .i64 ((i : Int) + 1))).cell? ⟨m, 0, none⟩ = some (.slice A l c) := (d5.cell 0).trans rfl
    have e1 : (w1.setCell ⟨m, 1, none⟩ (.int .i64 ((i : Int) + 1))).cell? ⟨m, 1, none⟩ = some (.int .i64 ((i : Int) + 1)) := (d5.cell 1).trans rfl
    have D4 := Lib.hid d4
    have D5 := Lib.hid d5
    clear d4 d5 hf1
    go_wp2_with fail
    refine (CON.out _ _ D4.out (by simp [xnm])).mono ?_
    rintro e w2 ⟨bb, rfl, hbb, rfl⟩
    cases bb
    · have hni : xnm i ∉ tk := fun h => by have := hbb.2 h; cases this
      have HI := Lib.hid (fsh_here hgi hif hni)
      clear hbb hni
      go_wp2_with fail
      go_ret
      refine ⟨ret_str (by rw [← HI.out]; simp [xnm]), D4.out, ?_⟩
      rw [← HI.out, HLN.out]
      exact D5.out
    · have hm := fsh_past hif (hbb.1 rfl)
      clear hbb
      go_wp2_with fail
      go_roundw
      case rel => exact ⟨i + 1, by omega, hm, D4.out, by rw [HLN.out]; exact D5.out⟩
      case measure =>
        simp only [c1, e1, Option.getD_some, intOf]
        omega
end Go.Proofs.YtnjgaenhjdjpfaaGreatDoor

/- The program's renaming of bound names. -/
namespace Go.Proofs.YtnjgaenhjdjpfaaGreatDoor
open Go.RowKit Go.ChangeMaps

/-- the parts so far: their memory is old or new -/
structure KM (w : World) (S T : Nat → Prop) (f : Ts) (i : Nat) (V : Value) (wr : World) : Prop where
  fr : Fr S w wr
  own : ∃ xs, wr.ownsRow w.heap.size 31 1 V i xs ∧ TEl wr (fun b => T b ∨ (w.heap.size ≤ b ∧ b < wr.heap.size ∧ some b ≠ V.ownBlock)) f xs

/-- what is not written, and what is read -/
structure Apart2 (w : World) (S T : Nat → Prop) : Prop where
  s : ∀ b, S b → b < w.heap.size
  t : ∀ b, T b → b < w.heap.size ∧ ¬ S b

theorem KM.keep {w wr w' : World} {S T : Nat → Prop} {i : Nat} {f : Ts} {V : Value} (ha : Apart2 w S T) (h : KM w S T f i V wr) (hf : Fr S wr w') : KM w S T f i V w' := by
  obtain ⟨h1, ⟨xs, h2, h3⟩⟩ := h
  refine ⟨h1.trans hf, ⟨xs, own_fr h2 hf (fun b hb e => by have := ha.s b e; have := (h2.lt b hb).1; omega), h3.mono (fun b hb => hb.imp (fun h => h) (fun hb => ⟨hb.1, Nat.lt_of_lt_of_le hb.2.1 hf.size, hb.2.2⟩)) (fun b hb => ?_)⟩⟩
  rcases hb with hb | hb
  · exact hf.block b (Nat.lt_of_lt_of_le (ha.t b hb).1 h1.size) (ha.t b hb).2
  · exact hf.block b hb.2.1 (fun e => by have := ha.s b e; omega)

theorem KM.form {w wr : World} {S T : Nat → Prop} {i : Nat} {f : Ts} {V : Value} (h : KM w S T f i V wr) : ∃ A c, V = .slice A i c := by
  obtain ⟨_, ⟨xs, h2, _⟩⟩ := h
  exact own_form h2

theorem KM.start (w : World) (S T : Nat → Prop) {wr : World} (hf : Fr S w wr) (o : Obj) (ho : o = .cells #[] 31) : KM w S T .nil 0 (.slice (some ⟨wr.heap.size, 0, none⟩) 0 0) (wr.alloc o) := by
  subst ho
  exact ⟨hf.alloc _, ⟨[], ⟨rfl, .inr ⟨wr.heap.size, 0, #[], rfl, hf.size, heap_alloc_new wr _, Nat.le_refl _, Nat.zero_le _, rfl, rfl⟩⟩, rfl⟩⟩

/-- one part more -/
theorem KM.more {w wr w1 w2 : World} {S T : Nat → Prop} {i : Nat} {f : Ts} {V v' : Value} {o : Obj} {p : Nat} {h a : List UInt8} {d : Nat} {k : Ts} (ha : Apart2 w S T) (hk : KM w S T f i V wr) (hf : Fr S wr w1) (ht : Tm w1 (fun b => T b ∨ (wr.heap.size ≤ b ∧ b < w1.heap.size)) p h a d k)
    {xs : List Value} (h2 : w1.ownsRow w.heap.size 31 1 V i xs) (h3 : TEl w1 (fun b => T b ∨ (w.heap.size ≤ b ∧ b < w1.heap.size ∧ some b ≠ V.ownBlock)) f xs) (hown : w2.ownsRow w.heap.size 31 1 v' (i + 1) (xs ++ [Ptr p]))
    (hg : (w1.alloc o).grownBy w2 V.ownBlock) (hloc : v'.ownBlock = V.ownBlock ∨ v'.ownBlock = some (w1.alloc o).heap.size) : KM w S T (f.snoc h a d k) (i + 1) v' w2 := by
  have hk1 := hk.keep ha hf
  obtain ⟨h1, _⟩ := hk1
  have hvo := h2.lt
  have hvr : ∀ b, V.ownBlock = some b → b < wr.heap.size := fun b hb => by
    obtain ⟨_, ⟨ys, g2, _⟩⟩ := hk
    exact (g2.lt b hb).2
  have hsz := hg.size
  have hsa : (w1.alloc o).heap.size = w1.heap.size + 1 := by simp
  have hs1 := hf.size
  have hs0 := hk.fr.size
  have keep : ∀ b, b < w1.heap.size → some b ≠ V.ownBlock → w2.heap[b]? = w1.heap[b]? := fun b hb hne => by
    rw [hg.block b (by omega) hne]
    exact Below.heap_alloc _ _ _ hb
  have more : ∀ b, b < w1.heap.size → some b ≠ V.ownBlock → some b ≠ v'.ownBlock := fun b hb hne => by
    rcases hloc with e | e
    · rw [e]; exact hne
    · rw [e]; intro h; injection h with h; omega
  have hTV : ∀ b, T b → some b ≠ V.ownBlock := fun b hb e => by have := (hvo b e.symm).1; have := (ha.t b hb).1; omega
  refine ⟨(h1.alloc o).grown hg (fun b hb => .inr (hvo b hb).1), ⟨xs ++ [Ptr p], hown, ?_⟩⟩
  refine TEl.snoc (ht.mono (fun b hb => ?_) (fun b hb => ?_)) (h3.mono (fun b hb => ?_) (fun b hb => ?_))
  · rcases hb with hb | hb
    · exact .inl hb
    · have hne : some b ≠ V.ownBlock := fun e => by have := hvr b e.symm; omega
      exact .inr ⟨by omega, by omega, more b hb.2 hne⟩
  · rcases hb with hb | hb
    · exact keep b (by have := (ha.t b hb).1; omega) (hTV b hb)
    · exact keep b hb.2 (fun e => by have := hvr b e.symm; omega)
  · rcases hb with hb | hb
    · exact .inl hb
    · exact .inr ⟨hb.1, by omega, more b hb.2.1 hb.2.2⟩
  · rcases hb with hb | hb
    · exact keep b (by have := (ha.t b hb).1; omega) (hTV b hb)
    · exact keep b hb.2.1 hb.2.2

theorem KM.done {w wr : World} {S T : Nat → Prop} {i : Nat} {f : Ts} {A : Option Addr} {c : Nat} (h : KM w S T f i (.slice A i c) wr) (hl : f.len = i) : TSl wr (TN T w wr) A f := by
  obtain ⟨_, ⟨xs, h2, h3⟩⟩ := h
  refine ⟨xs, h3.mono (fun b hb => hb.imp (fun h => h) (fun hb => ⟨hb.1, hb.2.1⟩)) (fun _ _ => rfl), ?_⟩
  rcases h2.2 with ⟨_, h0⟩ | ⟨g, cap, cur, hv, _⟩
  · left; omega
  · injection hv with e1 e2 e3
    right
    refine ⟨g, 0, e1, .inr (h2.lt g (by rw [e1]; rfl)), fun j u hj => ?_⟩
    have := h2.cells (g := g) (by rw [e1]; rfl) j u hj
    rw [addr_add] at this
    exact this

abbrev NmB (w : World) (m : Nat) (A : Option Addr) (l c g : Nat) : Prop := Blk w m 56 #[.slice A l c, .int .i64 (g : Int)]

def RnP (tk : List (List UInt8)) (m : Nat) (A : Option Addr) (c : Nat) (T : Nat → Prop) (h a : List UInt8) (d : Nat) (k : Ts) (g : Nat) (w : World) (e : Ending) (w' : World) : Prop :=
  ∃ p, e = .returned (Ptr p) ∧ Fr (One m) w w' ∧ NmB w' m A tk.length c (rnT tk k (rnG tk h k g)).2 ∧ Tm w' (TN T w w') p h (rnAt tk h a k g) (rnD d k) (rnT tk k (rnG tk h k g)).1

def RnSaid (k : Ts) : Prop := ∀ (h a : List UInt8) (d p : Nat) (w : World) (T : Nat → Prop) (B m : Nat) (A : Option Addr) (c g : Nat) (tk : List (List UInt8)), k.size ≤ 5000 → (∀ b, T b → b < w.heap.size ∧ b ≠ m) → Tm w T p h a d k → B ≤ m → Tb B w →
  NmB w m A tk.length c g → SSl w A tk → (∀ b o, A = some ⟨b, o, none⟩ → b ≠ m) → tk.length ≤ 1000 → (rnT tk k (rnG tk h k g)).2 ≤ 4000 →
  Calls Tryz.prog 34 #[Ptr m, Ptr p] w fun e w' => RnP tk m A c T h a d k g w e w'

theorem rn_step (tk : List (List UInt8)) {k : Ts} {j : Nat} {h a : List UInt8} {d : Nat} {k' : Ts} (e : k.nth j = some (h, a, d, k')) (g : Nat) :
    rnT tk (k.from_ j) g = (.cons h (rnAt tk h a k' g) (rnD d k') (rnT tk k' (rnG tk h k' g)).1 (rnT tk (k.from_ (j + 1)) (rnT tk k' (rnG tk h k' g)).2).1, (rnT tk (k.from_ (j + 1)) (rnT tk k' (rnG tk h k' g)).2).2) := by
  rw [Ts.from_nth k j h a d k' e]
  rfl

set_option maxRecDepth 100000 in
set_option maxHeartbeats 2000000 in
theorem rename_node (k : Ts) (hN : ∀ h a d k' j, k.nth j = some (h, a, d, k') → RnSaid k') : RnSaid k := by
  intro h a d p w T B m A c g tk hs hT ht hB htb hnm hx hA hl hend
  have HN := Lib.hid hN
  have HB := Lib.hid hB
  have HTB := Lib.hid htb
  have HX := Lib.hid hx
  have HA := Lib.hid hA
  have HNM := Lib.hid hnm
  have HEND := Lib.hid hend
  have HLL := Lib.hid hl
  have htm0 := ht
  obtain ⟨hp, AK, cK, hb, hsl⟩ := ht.open_
  have HAP : Hid (Apart2 w (One m) T) := ⟨fun b hb => by unfold One at hb; rw [hb]; exact hnm.lt, fun b hb => ⟨(hT b hb).1, fun e => (hT b hb).2 e⟩⟩
  have HT := Lib.hid hT
  have HSL := Lib.hid hsl
  have c0 : w.cell? ⟨p, 0, none⟩ = some (S h) := (hb.cell 0).trans rfl
  have c1 : w.cell? ⟨p, 1, none⟩ = some (S a) := (hb.cell 1).trans rfl
  have c3 : w.cell? ⟨p, 3, none⟩ = some (.slice AK k.len cK) := (hb.cell 3).trans rfl
  have hpm := (hT p hp).2
  have HKB := Lib.hid hb
  have hlt := hb.lt
  have hln := Ts.len_size k
  have hl6 : (k.len : Int) ≤ 5000 := by omega
  have HSZ := Lib.hid hs
  obtain ⟨l, hll⟩ : ∃ l, tk.length = l := ⟨_, rfl⟩
  have HLN := Lib.hid hll
  have hmw := hnm.lt
  clear hN hB htb hx hA hnm hend hb hsl ht hT hl hs
  by_cases hk0 : k.len = 0
  · have n0 : ((k.len : Int) == 0) = true := by rw [hk0]; rfl
    have FIN : Hid (RnP tk m A c T h a d k g w (.returned (Ptr p)) w) := by
      obtain rfl := len_nil hk0
      refine ⟨p, rfl, Fr.refl _ _, HNM.out, ?_⟩
      exact htm0.mono (fun b hb => .inl hb) (fun _ _ => rfl)
    clear htm0 hk0 hll
    go_enter Tryz.func34, Tryz.ntmps34
    go_wp2_with fail
    go_ret
    exact FIN.out
  · have n0 : ((k.len : Int) == 0) = false := beq_eq_false_iff_ne.2 (by omega)
    have HK0 := Lib.hid hk0
    clear htm0 hk0
    rcases hbb : bindsB h with _ | _
    · have HBB := Lib.hid hbb
      have HG : Hid (rnG tk h k g = g) := by show _ = _; simp only [rnG, if_neg HK0.out, hbb]; rfl
      have HAT : Hid (rnAt tk h a k g = a) := by show _ = _; simp only [rnAt, if_neg HK0.out, hbb]; rfl
      clear hbb
      go_enter Tryz.func34, Tryz.ntmps34
      go_wp2_with fail
      refine (binds_any h false HBB.out w).mono ?_
      rintro e w' ⟨rfl, rfl⟩
      obtain ⟨wa, hwa⟩ : ∃ wa, wa = w := ⟨_, rfl⟩
      have HFA : Hid (Fr (One m) w wa) := by rw [hwa]; exact Fr.refl _ _
      obtain ⟨g1, hg1⟩ : ∃ g1, g1 = rnG tk h k g := ⟨_, rfl⟩
      have HG1 := Lib.hid hg1
      have HNA : Hid (NmB wa m A l c g1) := by
        have := HNM.out
        rw [hll, ← HG.out, ← hg1, ← hwa] at this
        exact this
      have HA2 : Hid (a = rnAt tk h a k g) := by show _ = _; rw [HAT.out]
      rw [← hwa] at c0 c1 c3 hlt ⊢
      clear hg1 hwa hll
      go_wp2_with fail
      have HKS : Hid (KM w (One m) T .nil 0 (.slice (some ⟨wa.heap.size, 0, none⟩) 0 0) (wa.alloc (.cells #[] 31))) := KM.start w (One m) T HFA.out _ rfl
      have HNS : Hid (NmB (wa.alloc (.cells #[] 31)) m A l c g1) := HNA.out.alloc _
      go_loopw [6, 33] (fun V u wr => ∃ (j : Nat) (Ai : Option Addr) (ci : Nat) (f : Ts) (gj : Nat), j ≤ k.len ∧ u = .int .i64 j ∧ V = .slice Ai j ci ∧ f.len = j ∧ KM w (One m) T f j (.slice Ai j ci) wr ∧ NmB wr m A l c gj ∧ rnT tk k g1 = (f.app (rnT tk (k.from_ j) gj).1, (rnT tk (k.from_ j) gj).2)) (fun _ u _ => k.len - (intOf u).toNat)
      case atStart => exact ⟨0, _, 0, .nil, g1, Nat.zero_le _, rfl, rfl, rfl, HKS.out, HNS.out, by rw [Ts.from_zero]; rfl⟩
      case round =>
        obtain ⟨j, Ai, ci, f, gj, hj, rfl, rfl, hfl, hkm, hnmj, hrn⟩ := hrel
        have HKM := Lib.hid hkm
        have HNJ := Lib.hid hnmj
        have HRN := Lib.hid hrn
        have HFL := Lib.hid hfl
        clear hkm hnmj hrn hfl
        have hbr := HKB.out.fr HKM.out.fr (fun e => hpm e)
        have r0 : wr.cell? ⟨p, 0, none⟩ = some (S h) := (hbr.cell 0).trans rfl
        have rlt := hbr.lt
        by_cases hjl : j < k.len
        · have hTw : ∀ b, T b → wr.heap[b]? = w.heap[b]? := fun b hb => HKM.out.fr.block b (HT.out b hb).1 (HT.out b hb).2
          obtain ⟨gg, o, q, h', a', d', k', rfl, hg, hn, hc, htm⟩ := (HSL.out.mono (T' := T) (fun _ h => h) hTw).at_ hjl
          have hst := rn_step tk hn gj
          have hz := Ts.nth_size hn
          have HST := Lib.hid hst
          have hlg := block_lt hc
          have CALL : Hid (Calls Tryz.prog 34 #[Ptr m, Ptr q] wr fun e w' => RnP tk m A c T h' a' d' k' gj wr e w') := by
            refine HN.out h' a' d' k' j hn h' a' d' q wr T B m A c gj tk (by have := HSZ.out; omega) (fun b hb => ⟨Nat.lt_of_lt_of_le (HT.out b hb).1 HKM.out.fr.size, (HT.out b hb).2⟩) htm HB.out (HTB.out.fr HKM.out.fr (by have := HB.out; omega) (fun k hk => by unfold One at hk; have := HB.out; omega)) (by rw [HLN.out]; exact HNJ.out) (HX.out.frT HKM.out.fr (fun b o e h => HA.out b o e h)) HA.out HLL.out ?_
            have h1 := HEND.out
            rw [← HG1.out, HRN.out, HST.out] at h1
            have h2 := rnT_mono tk (k.from_ (j + 1)) (rnT tk k' (rnG tk h' k' gj)).2
            exact Nat.le_trans h2 h1
          clear hst htm hn hz hTw hbr
          go_wp2_with fail
          refine CALL.out.mono ?_
          rintro e w3 ⟨q3, rfl, hf3, hn3, ht3⟩
          have HF3 := Lib.hid hf3
          have HKM3 := Lib.hid (HKM.out.keep HAP.out hf3)
          have HN3 := Lib.hid hn3
          have HTM : Hid (Tm w3 (fun b => T b ∨ (wr.heap.size ≤ b ∧ b < w3.heap.size)) q3 h' (rnAt tk h' a' k' gj) (rnD d' k') (rnT tk k' (rnG tk h' k' gj)).1) := ht3
          clear hf3 hn3 ht3
          obtain ⟨xs, hown0, hel0⟩ := HKM3.out.own
          obtain ⟨i0, hi0, hz0, hz1, hz2⟩ := info_parts info_ptr
          have hsz3 := HKM3.out.fr.size
          have HOA : Hid (∀ o : Obj, (w3.alloc o).ownsRow w.heap.size 31 1 (.slice Ai j ci) j xs) := fun o => hown0.alloc o
          have HC1 : Hid (∀ (i : Nat) (u : Value), [Ptr q3][i]? = some u → (w3.alloc (.cells #[Ptr q3] 31)).cell? ((⟨w3.heap.size, 0, none⟩ : Addr).add i) = some u) := cells_new (w := w3) rfl [Ptr q3] 31
          have HC2 : Hid (∀ u ∈ [Ptr q3], u.oneCell' = true) := by
            intro u hu
            simp at hu
            rw [hu]; rfl
          have HC5 : Hid (∀ o : Obj, w.heap.size ≤ (w3.alloc o).heap.size) := fun o => by simp; omega
          have bnd : (j + 1) * 8 ≤ 140737488355328 := by omega
          have bnd2 : j + 1 ≤ maxLen := by unfold maxLen; omega
          have HM : Hid (∀ (o : Obj) V' w4, w4.ownsRow w.heap.size 31 1 V' (j + 1) (xs ++ [Ptr q3]) → (w3.alloc o).grownBy w4 (Value.slice Ai j ci).ownBlock → (V'.ownBlock = (Value.slice Ai j ci).ownBlock ∨ V'.ownBlock = some (w3.alloc o).heap.size) →
              ∃ A4 c4, V' = .slice A4 (j + 1) c4 ∧ KM w (One m) T (f.snoc h' (rnAt tk h' a' k' gj) (rnD d' k') (rnT tk k' (rnG tk h' k' gj)).1) (j + 1) V' w4 ∧ NmB w4 m A l c (rnT tk k' (rnG tk h' k' gj)).2) := by
            intro o V' w4 h1 h2 h3
            obtain ⟨A4, c4, e4⟩ := own_form h1
            refine ⟨A4, c4, e4, ?_, ?_⟩
            · exact HKM.out.more HAP.out HF3.out HTM.out hown0 hel0 h1 h2 h3
            · have hb := h2.block m (by simp; omega) (fun e => by have := (hown0.lt m e.symm).1; omega)
              have h4 := HN3.out
              rw [HLN.out] at h4
              exact Blk.keep (h4.alloc o) hb
          have HRN2 : Hid (rnT tk k g1 = ((f.snoc h' (rnAt tk h' a' k' gj) (rnD d' k') (rnT tk k' (rnG tk h' k' gj)).1).app (rnT tk (k.from_ (j + 1)) (rnT tk k' (rnG tk h' k' gj)).2).1, (rnT tk (k.from_ (j + 1)) (rnT tk k' (rnG tk h' k' gj)).2).2)) := by
            show _ = _
            rw [HRN.out, HST.out, Ts.snoc_app]
          clear hown0 hel0
          go_wp2_with (at_builtin; go_must (refine wpList_append_own_at _ rfl _ _ 76 rfl w.heap.size 31 i0 (.pointer none) 1 8 Tryz.underlying76 hi0 hz0 hz1 hz2 rfl (by decide) _ j xs rfl (HOA.out _) ⟨w3.heap.size, 0, none⟩ 1 1 [Ptr q3] rfl rfl HC1.out HC2.out bnd2 bnd (HC5.out _) ?_); intro v' w4 hown' hgrow _ hloc; obtain ⟨A4, c4, rfl, hkm4, hn4⟩ := HM.out _ v' w4 hown' hgrow hloc; have HKM4 := Lib.hid hkm4; have HN4 := Lib.hid hn4; clear hown' hgrow hloc hkm4 hn4)
          go_roundw
          case rel => exact ⟨j + 1, A4, c4, _, _, by omega, by go_num, rfl, by rw [Ts.len_snoc, HFL.out], HKM4.out, HN4.out, HRN2.out⟩
          case measure => simp [intOf]; omega
        · have hjk : j = k.len := by omega
          have HE : Hid (rnT tk k g1 = (f, gj)) := by
            show _ = _
            rw [HRN.out, hjk, Ts.from_len]
            simp only [rnT, Ts.app_nil]
          have HFK : Hid (f.len = k.len) := by show _ = _; rw [HFL.out, hjk]
          have NEW : Hid (Calls Tryz.prog 51 #[S h, S a, .slice Ai j ci] wr fun e w' => NewPost (TN T w wr) h a f wr e w') := by
            have h1 := congrArg (fun z => z.1.size) HE.out
            simp only [rnT_size] at h1
            have h2 := HFL.out
            subst h2
            exact newTerm_any wr (TN T w wr) h a f Ai ci (fun b hb => hb.elim (fun h => Nat.lt_of_lt_of_le (HT.out b h).1 HKM.out.fr.size) (fun h => h.2)) (HKM.out.done rfl) (by have := HSZ.out; omega) (by have := HSZ.out; omega)
          clear hjk hbr
          go_wp2_with fail
          with_reducible refine NEW.out.mono ?_
          rintro e w5 ⟨p5, rfl, hf5, hp5, htm5⟩
          have FIN : Hid (RnP tk m A c T h a d k g w (.returned (Ptr p5)) w5) := by
            refine ⟨p5, rfl, HKM.out.fr.then_ hf5 (fun _ _ h => h.elim), ?_, ?_⟩
            · rw [HLN.out, ← HG1.out, HE.out]
              exact HNJ.out.fr hf5 (fun h => h)
            · rw [← HG1.out, HE.out, ← HA2.out, show rnD d k = 0 by simp only [rnD, if_neg HK0.out]]
              refine htm5.mono (fun b hb => ?_) (fun _ _ => rfl)
              rcases hb with (hb | hb) | hb
              · exact .inl hb
              · exact .inr ⟨hb.1, Nat.lt_of_lt_of_le hb.2 hf5.size⟩
              · exact .inr ⟨Nat.le_trans HKM.out.fr.size hb.1, hb.2⟩
          clear hf5 hp5 htm5
          go_wp2_with fail
          go_ret
          exact FIN.out
    · have HBB := Lib.hid hbb
      have HG : Hid (rnG tk h k g = fsh tk g + 1) := by show _ = _; simp only [rnG, if_neg HK0.out, hbb]; rfl
      have HAT : Hid (rnAt tk h a k g = xnm (fsh tk g)) := by show _ = _; simp only [rnAt, if_neg HK0.out, hbb]; rfl
      have FRS : Hid (Calls Tryz.prog 59 #[Ptr m] w fun e w' => FshP tk m A c g w e w') := by
        refine fresh_any w B m A c g tk HB.out HTB.out HNM.out HX.out HA.out HLL.out ?_
        have h1 := HEND.out
        have h2 := rnT_mono tk k (rnG tk h k g)
        rw [HG.out] at h1 h2
        omega
      clear hbb
      go_enter Tryz.func34, Tryz.ntmps34
      go_wp2_with fail
      refine (binds_any h true HBB.out w).mono ?_
      rintro e w' ⟨rfl, rfl⟩
      go_wp2_with fail
      refine FRS.out.mono ?_
      rintro e wa ⟨rfl, hfa, hna⟩
      have HFA := Lib.hid hfa
      have hbk := HKB.out.fr hfa (fun e => hpm e)
      have d0 : wa.cell? ⟨p, 0, none⟩ = some (S h) := (hbk.cell 0).trans rfl
      have d3 : wa.cell? ⟨p, 3, none⟩ = some (.slice AK k.len cK) := (hbk.cell 3).trans rfl
      have dlt := hbk.lt
      obtain ⟨g1, hg1⟩ : ∃ g1, g1 = rnG tk h k g := ⟨_, rfl⟩
      have HG1 := Lib.hid hg1
      have HNA : Hid (NmB wa m A l c g1) := by
        rw [hll, ← HG.out, ← hg1] at hna
        exact hna
      obtain ⟨a2, ha2⟩ : ∃ a2, a2 = xnm (fsh tk g) := ⟨_, rfl⟩
      have HA2 : Hid (a2 = rnAt tk h a k g) := by show _ = _; rw [HAT.out, ha2]
      rw [← ha2]
      clear hg1 ha2 hll hna hfa hbk c0 c1 c3 hlt
      go_wp2_with fail
      have HKS : Hid (KM w (One m) T .nil 0 (.slice (some ⟨wa.heap.size, 0, none⟩) 0 0) (wa.alloc (.cells #[] 31))) := KM.start w (One m) T HFA.out _ rfl
      have HNS : Hid (NmB (wa.alloc (.cells #[] 31)) m A l c g1) := HNA.out.alloc _
      go_loopw [6, 33] (fun V u wr => ∃ (j : Nat) (Ai : Option Addr) (ci : Nat) (f : Ts) (gj : Nat), j ≤ k.len ∧ u = .int .i64 j ∧ V = .slice Ai j ci ∧ f.len = j ∧ KM w (One m) T f j (.slice Ai j ci) wr ∧ NmB wr m A l c gj ∧ rnT tk k g1 = (f.app (rnT tk (k.from_ j) gj).1, (rnT tk (k.from_ j) gj).2)) (fun _ u _ => k.len - (intOf u).toNat)
      case atStart => exact ⟨0, _, 0, .nil, g1, Nat.zero_le _, rfl, rfl, rfl, HKS.out, HNS.out, by rw [Ts.from_zero]; rfl⟩
      case round =>
        obtain ⟨j, Ai, ci, f, gj, hj, rfl, rfl, hfl, hkm, hnmj, hrn⟩ := hrel
        have HKM := Lib.hid hkm
        have HNJ := Lib.hid hnmj
        have HRN := Lib.hid hrn
        have HFL := Lib.hid hfl
        clear hkm hnmj hrn hfl
        have hbr := HKB.out.fr HKM.out.fr (fun e => hpm e)
        have r0 : wr.cell? ⟨p, 0, none⟩ = some (S h) := (hbr.cell 0).trans rfl
        have rlt := hbr.lt
        by_cases hjl : j < k.len
        · have hTw : ∀ b, T b → wr.heap[b]? = w.heap[b]? := fun b hb => HKM.out.fr.block b (HT.out b hb).1 (HT.out b hb).2
          obtain ⟨gg, o, q, h', a', d', k', rfl, hg, hn, hc, htm⟩ := (HSL.out.mono (T' := T) (fun _ h => h) hTw).at_ hjl
          have hst := rn_step tk hn gj
          have hz := Ts.nth_size hn
          have HST := Lib.hid hst
          have hlg := block_lt hc
          have CALL : Hid (Calls Tryz.prog 34 #[Ptr m, Ptr q] wr fun e w' => RnP tk m A c T h' a' d' k' gj wr e w') := by
            refine HN.out h' a' d' k' j hn h' a' d' q wr T B m A c gj tk (by have := HSZ.out; omega) (fun b hb => ⟨Nat.lt_of_lt_of_le (HT.out b hb).1 HKM.out.fr.size, (HT.out b hb).2⟩) htm HB.out (HTB.out.fr HKM.out.fr (by have := HB.out; omega) (fun k hk => by unfold One at hk; have := HB.out; omega)) (by rw [HLN.out]; exact HNJ.out) (HX.out.frT HKM.out.fr (fun b o e h => HA.out b o e h)) HA.out HLL.out ?_
            have h1 := HEND.out
            rw [← HG1.out, HRN.out, HST.out] at h1
            have h2 := rnT_mono tk (k.from_ (j + 1)) (rnT tk k' (rnG tk h' k' gj)).2
            exact Nat.le_trans h2 h1
          clear hst htm hn hz hTw hbr
          go_wp2_with fail
          refine CALL.out.mono ?_
          rintro e w3 ⟨q3, rfl, hf3, hn3, ht3⟩
          have HF3 := Lib.hid hf3
          have HKM3 := Lib.hid (HKM.out.keep HAP.out hf3)
          have HN3 := Lib.hid hn3
          have HTM : Hid (Tm w3 (fun b => T b ∨ (wr.heap.size ≤ b ∧ b < w3.heap.size)) q3 h' (rnAt tk h' a' k' gj) (rnD d' k') (rnT tk k' (rnG tk h' k' gj)).1) := ht3
          clear hf3 hn3 ht3
          obtain ⟨xs, hown0, hel0⟩ := HKM3.out.own
          obtain ⟨i0, hi0, hz0, hz1, hz2⟩ := info_parts info_ptr
          have hsz3 := HKM3.out.fr.size
          have HOA : Hid (∀ o : Obj, (w3.alloc o).ownsRow w.heap.size 31 1 (.slice Ai j ci) j xs) := fun o => hown0.alloc o
          have HC1 : Hid (∀ (i : Nat) (u : Value), [Ptr q3][i]? = some u → (w3.alloc (.cells #[Ptr q3] 31)).cell? ((⟨w3.heap.size, 0, none⟩ : Addr).add i) = some u) := cells_new (w := w3) rfl [Ptr q3] 31
          have HC2 : Hid (∀ u ∈ [Ptr q3], u.oneCell' = true) := by
            intro u hu
            simp at hu
            rw [hu]; rfl
          have HC5 : Hid (∀ o : Obj, w.heap.size ≤ (w3.alloc o).heap.size) := fun o => by simp; omega
          have bnd : (j + 1) * 8 ≤ 140737488355328 := by omega
          have bnd2 : j + 1 ≤ maxLen := by unfold maxLen; omega
          have HM : Hid (∀ (o : Obj) V' w4, w4.ownsRow w.heap.size 31 1 V' (j + 1) (xs ++ [Ptr q3]) → (w3.alloc o).grownBy w4 (Value.slice Ai j ci).ownBlock → (V'.ownBlock = (Value.slice Ai j ci).ownBlock ∨ V'.ownBlock = some (w3.alloc o).heap.size) →
              ∃ A4 c4, V' = .slice A4 (j + 1) c4 ∧ KM w (One m) T (f.snoc h' (rnAt tk h' a' k' gj) (rnD d' k') (rnT tk k' (rnG tk h' k' gj)).1) (j + 1) V' w4 ∧ NmB w4 m A l c (rnT tk k' (rnG tk h' k' gj)).2) := by
            intro o V' w4 h1 h2 h3
            obtain ⟨A4, c4, e4⟩ := own_form h1
            refine ⟨A4, c4, e4, ?_, ?_⟩
            · exact HKM.out.more HAP.out HF3.out HTM.out hown0 hel0 h1 h2 h3
            · have hb := h2.block m (by simp; omega) (fun e => by have := (hown0.lt m e.symm).1; omega)
              have h4 := HN3.out
              rw [HLN.out] at h4
              exact Blk.keep (h4.alloc o) hb
          have HRN2 : Hid (rnT tk k g1 = ((f.snoc h' (rnAt tk h' a' k' gj) (rnD d' k') (rnT tk k' (rnG tk h' k' gj)).1).app (rnT tk (k.from_ (j + 1)) (rnT tk k' (rnG tk h' k' gj)).2).1, (rnT tk (k.from_ (j + 1)) (rnT tk k' (rnG tk h' k' gj)).2).2)) := by
            show _ = _
            rw [HRN.out, HST.out, Ts.snoc_app]
          clear hown0 hel0
          go_wp2_with (at_builtin; go_must (refine wpList_append_own_at _ rfl _ _ 76 rfl w.heap.size 31 i0 (.pointer none) 1 8 Tryz.underlying76 hi0 hz0 hz1 hz2 rfl (by decide) _ j xs rfl (HOA.out _) ⟨w3.heap.size, 0, none⟩ 1 1 [Ptr q3] rfl rfl HC1.out HC2.out bnd2 bnd (HC5.out _) ?_); intro v' w4 hown' hgrow _ hloc; obtain ⟨A4, c4, rfl, hkm4, hn4⟩ := HM.out _ v' w4 hown' hgrow hloc; have HKM4 := Lib.hid hkm4; have HN4 := Lib.hid hn4; clear hown' hgrow hloc hkm4 hn4)
          go_roundw
          case rel => exact ⟨j + 1, A4, c4, _, _, by omega, by go_num, rfl, by rw [Ts.len_snoc, HFL.out], HKM4.out, HN4.out, HRN2.out⟩
          case measure => simp [intOf]; omega
        · have hjk : j = k.len := by omega
          have HE : Hid (rnT tk k g1 = (f, gj)) := by
            show _ = _
            rw [HRN.out, hjk, Ts.from_len]
            simp only [rnT, Ts.app_nil]
          have HFK : Hid (f.len = k.len) := by show _ = _; rw [HFL.out, hjk]
          have NEW : Hid (Calls Tryz.prog 51 #[S h, S a2, .slice Ai j ci] wr fun e w' => NewPost (TN T w wr) h a2 f wr e w') := by
            have h1 := congrArg (fun z => z.1.size) HE.out
            simp only [rnT_size] at h1
            have h2 := HFL.out
            subst h2
            exact newTerm_any wr (TN T w wr) h a2 f Ai ci (fun b hb => hb.elim (fun h => Nat.lt_of_lt_of_le (HT.out b h).1 HKM.out.fr.size) (fun h => h.2)) (HKM.out.done rfl) (by have := HSZ.out; omega) (by have := HSZ.out; omega)
          clear hjk hbr
          go_wp2_with fail
          with_reducible refine NEW.out.mono ?_
          rintro e w5 ⟨p5, rfl, hf5, hp5, htm5⟩
          have FIN : Hid (RnP tk m A c T h a d k g w (.returned (Ptr p5)) w5) := by
            refine ⟨p5, rfl, HKM.out.fr.then_ hf5 (fun _ _ h => h.elim), ?_, ?_⟩
            · rw [HLN.out, ← HG1.out, HE.out]
              exact HNJ.out.fr hf5 (fun h => h)
            · rw [← HG1.out, HE.out, ← HA2.out, show rnD d k = 0 by simp only [rnD, if_neg HK0.out]]
              refine htm5.mono (fun b hb => ?_) (fun _ _ => rfl)
              rcases hb with (hb | hb) | hb
              · exact .inl hb
              · exact .inr ⟨hb.1, Nat.lt_of_lt_of_le hb.2 hf5.size⟩
              · exact .inr ⟨Nat.le_trans HKM.out.fr.size hb.1, hb.2⟩
          clear hf5 hp5 htm5
          go_wp2_with fail
          go_ret
          exact FIN.out

theorem rename_any (N : Nat) : ∀ k : Ts, SizeOf.sizeOf k < N → RnSaid k := by
  induction N with
  | zero => intro k h; omega
  | succ N ih =>
    intro k hN
    exact rename_node k (fun h a d k' j hn => ih k' (by have := Ts.nth_small k j h a d k' hn; omega))
end Go.Proofs.YtnjgaenhjdjpfaaGreatDoor

/- TermCanon of the program. -/
namespace Go.Proofs.YtnjgaenhjdjpfaaGreatDoor
open Go.RowKit Go.ChangeMaps

theorem head_short {h : List UInt8} (hh : shapeOf h ≠ []) : h.length ≤ 4 := (shape_head hh).2.2

theorem texts_len : ∀ (f : Fo), f.wf → (∀ sh : List Bool, isTms (some sh) f = true → f.stexts.length ≤ 8 * f.size) ∧ (isTms none f = true → f.stexts.length + 3 ≤ 8 * f.size ∧ 1 ≤ f.stexts.length)
  | .nil, _ => ⟨fun sh _ => by simp [Fo.stexts], fun h => (by cases h)⟩
  | .cons a k r, hw => by
    have hk := texts_len k hw.2.1
    have hr := texts_len r hw.2.2
    have tk : (isTm a k = true) → (treeText a k).length + 1 ≤ 8 * treeSize a k := by
      intro h
      by_cases ha : a = []
      · subst ha
        simp only [isTm, if_true] at h
        obtain ⟨h1, h2⟩ := hk.2 h
        simp only [treeText, treeSize, if_true, List.length_cons, List.length_append, List.length_nil]
        cases k with
        | nil => cases h
        | cons b j q =>
          rw [Fo.texts_eq]
          simp only [Fo.stexts, List.length_cons, List.length_append] at h1 h2 ⊢
          omega
      · simp only [isTm, if_neg ha] at h
        have := (atom_bytes h).2.2.2
        simp only [treeText, treeSize, if_neg ha]
        omega
    have es : (Fo.cons a k r).size = treeSize a k + r.size := rfl
    have et : (Fo.cons a k r).stexts.length = (treeText a k).length + 1 + r.stexts.length := by
      simp only [Fo.stexts, List.length_cons, List.length_append]; omega
    rw [es, et]
    refine ⟨?_, ?_⟩
    · intro sh hs
      cases sh with
      | nil => simp [isTms] at hs
      | cons b sh =>
        cases b with
        | true =>
          simp only [isTms, Bool.and_eq_true] at hs
          have h1 := tk hs.1
          have h2 := hr.1 sh hs.2
          omega
        | false =>
          simp only [isTms, Bool.and_eq_true] at hs
          have h0 := (name_bytes hs.1)
          have h2 := hr.1 sh hs.2
          have e1 : treeText a k = a := by simp [treeText, h0.1]
          have e2 : treeSize a k = 1 := by simp [treeSize, h0.1]
          have := h0.2.2.2
          rw [e1, e2]
          omega
    · intro hs
      simp only [isTms, Bool.and_eq_true] at hs
      have hs0 : shapeOf a ≠ [] := by intro e; rw [e] at hs; cases hs.1
      have h0 := shape_head hs0
      have h2 := hr.1 _ hs.2
      have e1 : treeText a k = a := by simp [treeText, h0.1]
      have e2 : treeSize a k = 1 := by simp [treeSize, h0.1]
      have := h0.2.2
      rw [e1, e2]
      omega

theorem text_len {a : List UInt8} {k : Fo} (h : isTm a k = true) (hk : k.wf) : (treeText a k).length ≤ 8 * treeSize a k := by
  by_cases ha : a = []
  · subst ha
    simp only [isTm, if_true] at h
    obtain ⟨h1, h2⟩ := (texts_len k hk).2 h
    simp only [treeText, treeSize, if_true, List.length_cons, List.length_append, List.length_nil]
    cases k with
    | nil => cases h
    | cons b j q =>
      rw [Fo.texts_eq]
      simp only [Fo.stexts, List.length_cons, List.length_append] at h1 h2 ⊢
      omega
  · simp only [isTm, if_neg ha] at h
    have := (atom_bytes h).2.2.2
    simp only [treeText, treeSize, if_neg ha]
    omega

theorem tokN_term {a : List UInt8} {k : Fo} (h : isTm a k = true) (hw : a ≠ [] → k = .nil) (hk : k.wf) : TokN [] (ndH a k) (ndA [] a k) (ndD [] a) (cv k (.parts [])) := by
  refine ⟨?_, tok_term h hw hk⟩
  by_cases ha : a = []
  · subst ha
    rintro ⟨h1, _⟩
    simp only [isTm, if_true] at h
    have h2 := ((wf_cv k hk).2.1 [] h).2
    have h3 := top_len [] hk h
    simp only [ndH, if_true] at h1
    rw [h2, h1] at h3
    exact absurd kids_name h3
  · obtain rfl := hw ha
    simp only [isTm, if_neg ha] at h
    exact (nm_tok [] a h).1

set_option maxRecDepth 100000 in
set_option maxHeartbeats 1000000 in
theorem canonText_any (w : World) (B : Nat) (T : Nat → Prop) (p : Nat) (h a : List UInt8) (d : Nat) (k : Ts) (hT : ∀ b, T b → b < w.heap.size) (ht : Tm w T p h a d k) (hB : B ≤ w.heap.size) (htb : Tb B w)
    (a' : List UInt8) (k' : Fo) (hcn : (rnT (frN h a k []) (.cons h a d k .nil) 0).1 = nd [] a' k') (htm : isTm a' k' = true) (hat : a' ≠ [] → k' = .nil) (hwf : k'.wf) (hsz : treeSize a' k' ≤ 300) :
    Calls Tryz.prog 23 #[Ptr p] w fun e w' => e = .returned (S (treeText a' k')) ∧ Fr No w w' := by
  have e0 := congrArg Ts.size hcn
  rw [rnT_size, nd_size [] htm hat hwf] at e0
  have hks : k.size + 1 ≤ 300 := by
    simp only [Ts.size] at e0
    split at e0 <;> omega
  have FN := Lib.hid (freeNames_any w T h a d p k (by omega) hT ht)
  have hfl := fr_nlen h a k []
  simp only [List.length_nil] at hfl
  obtain ⟨tk, htk⟩ : ∃ tk, tk = frN h a k [] := ⟨_, rfl⟩
  rw [← htk] at FN hcn hfl
  have hend := rnT_bound tk (.cons h a d k .nil)
  simp only [rnT, Ts.size] at hend hcn
  simp only [nd, Ts.cons.injEq] at hcn
  obtain ⟨q1, q2, q3, q4, _⟩ := hcn
  have HQ := Lib.hid (And.intro q1 (And.intro q2 (And.intro q3 q4)))
  have HT := Lib.hid hT
  have HTM := Lib.hid ht
  have HB := Lib.hid hB
  have HTB := Lib.hid htb
  have HE : Hid ((rnT tk k (rnG tk h k 0)).2 ≤ 4000) := by show _ ≤ _; split at hend <;> omega
  have HTL : Hid (tk.length ≤ 1000) := by show _ ≤ _; omega
  have HK : Hid (k.size ≤ 5000) := by show _ ≤ _; omega
  have HTX := Lib.hid (text_len htm hwf)
  have HTK := Lib.hid (tokN_term htm hat hwf)
  have HNT := Lib.hid (tx_term [] htm hat hwf)
  have HSZ := Lib.hid hsz
  have HCV : Hid ((cv k' (.parts [])).size ≤ 300) := by
    have := nd_size [] htm hat hwf
    simp only [nd, Ts.size] at this
    show _ ≤ _
    split at this <;> omega
  clear e0 hks htk hend q1 q2 q3 q4 hT ht hB htb htm hat hwf hsz
  go_enter Tryz.func23, Tryz.ntmps23
  go_wp2_with fail
  refine FN.out.mono ?_
  rintro e w1 ⟨A, c, rfl, hf1, ho⟩
  have HF1 := Lib.hid hf1
  have hfa : Fr No w (w1.alloc (.cells #[.slice A tk.length c, .int .i64 0] 56)) := hf1.alloc _
  have RN : Hid (Calls Tryz.prog 34 #[Ptr w1.heap.size, Ptr p] (w1.alloc (.cells #[.slice A tk.length c, .int .i64 0] 56)) fun e w' =>
      ∃ p', e = .returned (Ptr p') ∧ Fr No w w' ∧ Tm w' (fun b => b < w'.heap.size) p' (ndH a' k') (ndA [] a' k') (ndD [] a') (cv k' (.parts []))) := by
    have hs1 := hf1.size
    refine (rename_any _ k (Nat.lt_succ_self _) h a d p _ T B w1.heap.size A c 0 tk HK.out (fun b hb => ⟨Nat.lt_of_lt_of_le (HT.out b hb) hfa.size, by have := HT.out b hb; omega⟩) (HTM.out.mono (fun _ h => h) (fun b hb => hfa.block b (HT.out b hb) (fun h => h))) (Nat.le_trans HB.out hs1)
      (HTB.out.fr hfa HB.out (fun _ h => h.elim)) (Blk.new _ _ _) ((SSl.of_own ho).frT (T := No) ((Fr.refl _ _).alloc _) (fun _ _ _ h => h)) (fun b o e => ?_) HTL.out HE.out).mono ?_
    · subst e
      have := (ho.lt b rfl).2
      omega
    · rintro e w' ⟨p', rfl, g1, g2, g3⟩
      refine ⟨p', rfl, hfa.then_ g1 (fun i hi e => by unfold One at e; omega), ?_⟩
      obtain ⟨e1, e2, e3, e4⟩ := HQ.out
      rw [e2, e3, e4, e1] at g3
      exact g3.mono (fun b hb => hb.elim (fun hb => Nat.lt_of_lt_of_le (HT.out b hb) (Nat.le_trans hfa.size g1.size)) (fun hb => hb.2)) (fun _ _ => rfl)
  obtain ⟨l, HL⟩ : ∃ l, Hid (tk.length = l) := ⟨_, rfl⟩
  rw [HL.out] at RN
  rw [HL.out]
  clear hf1 ho hfa
  go_wp2_with fail
  refine RN.out.mono ?_
  rintro e w3 ⟨p3, rfl, hf3, ht3⟩
  have HF3 := Lib.hid hf3
  have TXT : Hid (Calls Tryz.prog 33 #[Ptr p3, .slice none 0 0] w3 fun e w' => e = .returned (S (treeText a' k')) ∧ Fr No w3 w') := by
    have := tx_any _ (cv k' (.parts [])) (Nat.lt_succ_self _) _ _ _ p3 w3 _ none 0 [] HTK.out (by rw [HNT.out]; have := HTX.out; have := HSZ.out; omega) (by have := HCV.out; simp; omega) (fun b hb => hb) ht3 (fun j x hj => by simp at hj)
    rw [HNT.out] at this
    exact this
  clear hf3 ht3
  go_wp2_with fail
  refine TXT.out.mono ?_
  rintro e w4 ⟨rfl, hf4⟩
  go_wp2_with fail
  go_ret
  exact ⟨rfl, HF3.out.trans hf4⟩

def CanonIs (s r : List UInt8) (b : Bool) : Prop := (∃ a k, TmOk s a k ∧ r = cnT a k ∧ b = true) ∨ ((∀ a k, ¬ TmOk s a k) ∧ r = [] ∧ b = false)

theorem CanonIs.one {s r r' : List UInt8} {b b' : Bool} (h : CanonIs s r b) (h' : CanonIs s r' b') : r' = r ∧ b' = b := by
  rcases h with ⟨a, k, i1, rfl, rfl⟩ | ⟨n1, rfl, rfl⟩ <;> rcases h' with ⟨a', k', i2, rfl, rfl⟩ | ⟨n2, rfl, rfl⟩
  · obtain ⟨rfl, rfl⟩ := i1.unique i2
    exact ⟨rfl, rfl⟩
  · exact absurd i1 (n2 a k)
  · exact absurd i2 (n1 a' k')
  · exact ⟨rfl, rfl⟩

/-- the canonical term, or the failure -/
def AnsCanon (s : List UInt8) (w : World) (e : Ending) (w' : World) : Prop := ∃ r b, e = .returned (.tuple #[S r, .bool b]) ∧ CanonIs s r b ∧ Fr No w w'

end Go.Proofs.YtnjgaenhjdjpfaaGreatDoor

/- TermAlike of the program: as what lam and let call their names is all that is not compared. -/
namespace Go.Proofs.YtnjgaenhjdjpfaaGreatDoor
open Go.RowKit Go.ChangeMaps

/-- how the program compares two terms -/
def smN (h a : List UInt8) (d : Nat) (k : Ts) (h' a' : List UInt8) (d' : Nat) (k' : Ts) : Bool := h == h' && d == d' && (if k.len = 0 then a == a' else smL k k')

theorem sm_cons (h a : List UInt8) (d : Nat) (k r : Ts) (h' a' : List UInt8) (d' : Nat) (k' r' : Ts) : smL (.cons h a d k r) (.cons h' a' d' k' r') = (smN h a d k h' a' d' k' && smL r r') := rfl

/-- depths are small -/
def DepOk : Ts → Prop
  | .nil => True
  | .cons _ _ d k r => d ≤ 100000 ∧ DepOk k ∧ DepOk r

theorem DepOk.nth : ∀ {f : Ts} {j : Nat} {h a : List UInt8} {d : Nat} {k : Ts}, DepOk f → f.nth j = some (h, a, d, k) → d ≤ 100000 ∧ DepOk k
  | .nil, _, _, _, _, _, _, e => by cases e
  | .cons h a d k r, 0, h', a', d', k', hd, e => by
    simp only [Ts.nth, Option.some.injEq, Prod.mk.injEq] at e
    obtain ⟨rfl, rfl, rfl, rfl⟩ := e
    exact ⟨hd.1, hd.2.1⟩
  | .cons h a d k r, j + 1, h', a', d', k', hd, e => DepOk.nth (f := r) hd.2.2 e

theorem sm_step {f f' : Ts} {j : Nat} {h a : List UInt8} {d : Nat} {k : Ts} {h' a' : List UInt8} {d' : Nat} {k' : Ts} (e : f.nth j = some (h, a, d, k)) (e' : f'.nth j = some (h', a', d', k')) : smL (f.from_ j) (f'.from_ j) = (smN h a d k h' a' d' k' && smL (f.from_ (j + 1)) (f'.from_ (j + 1))) := by
  rw [Ts.from_nth f j h a d k e, Ts.from_nth f' j h' a' d' k' e']
  rfl

end Go.Proofs.YtnjgaenhjdjpfaaGreatDoor
