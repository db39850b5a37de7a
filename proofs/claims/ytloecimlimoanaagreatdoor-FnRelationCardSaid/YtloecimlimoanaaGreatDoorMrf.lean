/- What is related, as the model finds it. · What is related at pairs, as the model finds it. · What is related at functions, as the model finds it. -/
import Derived.Test.YtloecimlimoanaaGreatDoorShas
import Derived.Test.YtloecimlimoanaaGreatDoorScnt
import Derived.Test.YtloecimlimoanaaGreatDoorRlt
import Derived.Test.YtloecimlimoanaaGreatDoorDig
/- What is related, as the model finds it. -/
namespace Go.Proofs.YtloecimlimoanaaGreatDoor
open Go.RowKit Go.ChangeMaps

/-- a space of relations: its data -/
structure SpD where
  ns : List (List UInt8)
  zl : List Int
  zr : List Int
  ml : List (Nat × Nat)
  mr : List (Nat × Nat)
  LS : List (List Int)
  N : Option Addr
  R : Option Addr
  L : Option Addr
  Z : Option Addr
  nc : Nat
  rc : Nat
  lc : Nat
  zc : Nat

structure SpAt (d : SpD) (w : World) (Q : Nat) : Prop where
  ol : ModelIs d.ns d.zl d.ml
  or : ModelIs d.ns d.zr d.mr
  len : d.LS.length = d.ns.length
  blk : Blk w Q 87 #[.slice d.N d.ns.length d.nc, .slice d.R d.LS.length d.rc, .slice d.L d.zl.length d.lc, .slice d.Z d.zr.length d.zc]
  nam : SSl w d.N d.ns
  lef : ISl w d.L d.zl
  rig : ISl w d.Z d.zr
  rel : ∀ (j i l r : Nat), d.ml[j]? = some (i, l) → d.mr[j]? = some (i, r) → ∃ (ps : List Int) (g o : Nat) (A : Option Addr) (c : Nat), d.LS[j]? = some ps ∧ d.R = some ⟨g, o, none⟩ ∧
    w.cell? ⟨g, o + j * 3, none⟩ = some (.int .i64 (l : Int)) ∧ w.cell? ⟨g, o + j * 3 + 1, none⟩ = some (.int .i64 (r : Int)) ∧ w.cell? ⟨g, o + j * 3 + 2, none⟩ = some (.slice A ps.length c) ∧ ISl w A ps ∧ ps.length ≤ 2000000 ∧ RelOk l r ps

theorem SpAt.fr {d : SpD} {w w' : World} {Q : Nat} (h : SpAt d w Q) (hf : Fr No w w') : SpAt d w' Q := by
  refine ⟨h.ol, h.or, h.len, h.blk.fr hf (fun h => h), h.nam.keep hf (fun _ h => h.elim), h.lef.keep hf (fun _ h => h.elim), h.rig.keep hf (fun _ h => h.elim), fun j i l r h1 h2 => ?_⟩
  obtain ⟨ps, g, o, A, c, e0, e1, c0, c1, c2, hi, h6, h7⟩ := h.rel j i l r h1 h2
  exact ⟨ps, g, o, A, c, e0, e1, (hf.cell (p := ⟨g, o + j * 3, none⟩) (block_lt c0) (fun h => h)).trans c0, (hf.cell (p := ⟨g, o + j * 3 + 1, none⟩) (block_lt c0) (fun h => h)).trans c1, (hf.cell (p := ⟨g, o + j * 3 + 2, none⟩) (block_lt c0) (fun h => h)).trans c2, hi.keep hf (fun _ h => h.elim), h6, h7⟩

/-- relations of the variables, as a space holds them -/
def RhoOk (d : SpD) (ρ : Nat → Nat → Nat → Bool) : Prop := ∀ (j i l r : Nat) (ps : List Int), d.ml[j]? = some (i, l) → d.mr[j]? = some (i, r) → d.LS[j]? = some ps → ∀ x y, ρ i x y = memR r ps x y

def ReSaid (d : SpD) (ρ : Nat → Nat → Nat → Bool) (t : Ty) : Prop := ∀ (w : World) (Q : Nat) (A : Option Addr) (c x y a b : Nat), SpAt d w Q → Sl w (fun b => b < w.heap.size) A t.kids → t.cnt (szs d.ml) = some a → t.cnt (szs d.mr) = some b → x < a → y < b →
  Calls Tryz.prog 41 #[Ptr Q, .agg #[S t.atom, .slice A t.kids.len c], .int .i64 x, .int .i64 y] w fun e w' => e = .returned (.bool (relT (szs d.ml) (szs d.mr) ρ t x y)) ∧ Fr No w w'

set_option maxRecDepth 100000 in
set_option maxHeartbeats 1000000 in
theorem re_o (d : SpD) (ρ : Nat → Nat → Nat → Bool) : ReSaid d ρ .o := by
  intro w Q A c x y a b _ _ _ _ _ _
  have HE : Hid (relT (szs d.ml) (szs d.mr) ρ .o x y = ((x : Int) == (y : Int))) := by
    show _ = _
    simp only [relT]
    apply Bool.eq_iff_iff.2
    simp
    omega
  simp only [Ty.atom, Ty.kids, Fo.len]
  go_enter Tryz.func41, Tryz.ntmps41
  go_wp2_with fail
  go_ret
  exact ⟨by rw [HE.out]; rfl, (Fr.refl _ _).alloc _⟩

set_option maxRecDepth 100000 in
set_option maxHeartbeats 1000000 in
theorem re_v (d : SpD) (ρ : Nat → Nat → Nat → Bool) (hρ : RhoOk d ρ) (i : Nat) (hi : i < 25) : ReSaid d ρ (.v i) := by
  intro w Q A c x y a b hS _ ha hb hx hy
  simp only [Ty.atom, Ty.kids, Fo.len]
  have n111 : (([Ty.letter i] : List UInt8) == [111]) = false := by have := (Ty.letter_ne hi).1; simpa using this
  have b0 := Blk.new w 46 #[S [Ty.letter i], .slice A 0 c]
  have hf0 : Fr No w (w.alloc (.cells #[S [Ty.letter i], .slice A 0 c] 46)) := (Fr.refl _ _).alloc _
  have HB : Hid (∀ w', Fr No (w.alloc (.cells #[S [Ty.letter i], .slice A 0 c] 46)) w' → w'.cell? ⟨w.heap.size, 0, none⟩ = some (S [Ty.letter i])) := fun w' hf => ((b0.fr hf (fun h => h)).cell 0).trans rfl
  have HS : Hid (∀ w', Fr No w w' → SpAt d w' Q) := fun w' hf => hS.fr hf
  have HA : Hid (szs d.ml i = some a) := ha
  have HBB : Hid (szs d.mr i = some b) := hb
  have HX := Lib.hid hx
  have HY := Lib.hid hy
  have HR := Lib.hid hρ
  have b26 : (d.ns.length : Int) ≤ 26 := by have := hS.ol.few; have h2 := congrArg List.length hS.ol.names; simp at h2; omega
  have c0 := HB.out _ (Fr.refl _ _)
  clear b0 hS hρ ha hb hx hy
  go_enter Tryz.func41, Tryz.ntmps41
  go_wp2_with fail
  generalize w.alloc (.cells #[S [Ty.letter i], .slice A 0 c] 46) = W at hf0 HB c0 ⊢
  have HF0 := Lib.hid hf0
  clear hf0
  go_loopw [9] (fun u wr => ∃ j : Nat, j ≤ d.ns.length ∧ u = .int .i64 j ∧ Fr No W wr ∧ (∀ p ∈ d.ml.take j, p.1 ≠ i) ∧ ∀ p ∈ d.mr.take j, p.1 ≠ i) (fun u _ => d.ns.length - (intOf u).toNat)
  case atStart => exact ⟨0, Nat.zero_le _, rfl, Fr.refl _ _, by simp, by simp⟩
  case round =>
    obtain ⟨j, hj, rfl, hfr, hno, hno2⟩ := hrel
    have HNO := Lib.hid hno
    have HNO2 := Lib.hid hno2
    have HF := Lib.hid hfr
    clear hno hno2 hfr c0
    have hsp := HS.out wr (HF0.out.trans HF.out)
    have q0 : wr.cell? ⟨Q, 0, none⟩ = some (.slice d.N d.ns.length d.nc) := (hsp.blk.cell 0).trans rfl
    have hlQ := hsp.blk.lt
    by_cases hlt : j < d.ns.length
    · obtain ⟨p, hp⟩ : ∃ p, d.ml[j]? = some p := ⟨_, List.getElem?_eq_getElem (by have := congrArg List.length hsp.ol.names; simp at this; omega)⟩
      obtain ⟨p2, hp2⟩ : ∃ p, d.mr[j]? = some p := ⟨_, List.getElem?_eq_getElem (by have := congrArg List.length hsp.or.names; simp at this; omega)⟩
      have hok := hsp.ol.ok p (List.mem_of_getElem? hp)
      have hok2 := hsp.or.ok p2 (List.mem_of_getElem? hp2)
      have hxj : d.ns[j]? = some [Ty.letter p.1] := by rw [hsp.ol.names, List.getElem?_map, hp]; rfl
      have hxj2 : d.ns[j]? = some [Ty.letter p2.1] := by rw [hsp.or.names, List.getElem?_map, hp2]; rfl
      have hpp : p2.1 = p.1 := by
        rw [hxj] at hxj2
        injection hxj2 with h
        injection h with h
        exact Ty.letter_inj hok2.1 hok.1 h.symm
      obtain ⟨g, o, hN, hc0⟩ := hsp.nam j _ hxj
      rw [hN] at q0
      have c1 : wr.cell? ⟨g, o + j, none⟩ = some (S [Ty.letter p.1]) := hc0
      have c3 := HB.out wr HF.out
      have hl1 := block_lt c1
      have hl3 := block_lt c3
      have hfd : Fr No w wr.drew := (HF0.out.trans HF.out).drew
      have HFD := Lib.hid (HF.out.drew)
      have HFW := Lib.hid hfd
      have HP := Lib.hid hp
      have HP2 := Lib.hid hp2
      have HSD : Hid (SpAt d wr.drew Q) := hsp.fr ((Fr.refl _ _).drew)
      clear hc0 hxj hxj2 hp hp2 hsp hfd hN
      by_cases he : p.1 = i
      · have hb : (([Ty.letter p.1] : List UInt8) == [Ty.letter i]) = true := by rw [he]; simp
        have e1 : p.2 = a := by
          have := szs_at HNO.out (show d.ml[j]? = some (i, p.2) by rw [HP.out, ← he])
          rw [HA.out] at this
          injection this with this
          exact this.symm
        have e2 : p2.2 = b := by
          have := szs_at HNO2.out (show d.mr[j]? = some (i, p2.2) by rw [HP2.out, ← he, ← hpp])
          rw [HBB.out] at this
          injection this with this
          exact this.symm
        obtain ⟨ps, g', o', A', c', f0, f1, d0, d1, d2, hi', h6, h7⟩ := HSD.out.rel j i a b (by rw [HP.out, ← he, ← e1]) (by rw [HP2.out, ← he, ← hpp, ← e2])
        have HFIN : Hid (relT (szs d.ml) (szs d.mr) ρ (.v i) x y = memR b ps x y) := HR.out j i a b ps (by rw [HP.out, ← he, ← e1]) (by rw [HP2.out, ← he, ← hpp, ← e2]) f0 x y
        have HHAS := Lib.hid (has6_any wr.drew a b A' c' ps hi' h6 h7 x y HX.out HY.out)
        have r1 : wr.drew.cell? ⟨Q, 1, none⟩ = some (.slice d.R d.LS.length d.rc) := (HSD.out.blk.cell 1).trans rfl
        have hLS : (d.LS.length : Int) = (d.ns.length : Int) := by have := HSD.out.len; omega
        have hjj : (j : Int) < (d.LS.length : Int) := by omega
        have hg' := block_lt d0
        rw [f1] at r1
        rw [he] at c1
        clear he hb f0 f1 hi' h6 h7 e1 e2 hLS
        go_wp2_with fail
        refine wp_region_still_lit (by kernel_rfl) (by kernel_rfl) ?_
        change wpStill _ _ (World.drew _) (fun a' => _) _ _
        repeat still_step
        refine wpStill_nil ?_
        go_wp2_with fail
        refine HHAS.out.mono ?_
        rintro e w2 ⟨rfl, hf2⟩
        have HF2 := Lib.hid (HFW.out.trans hf2)
        clear hf2
        go_wp2_with fail
        go_ret
        exact ⟨by rw [HFIN.out]; rfl, HF2.out⟩
      · have hne : Ty.letter p.1 ≠ Ty.letter i := fun h => he (Ty.letter_inj hok.1 hi h)
        have hb : (([Ty.letter p.1] : List UInt8) == [Ty.letter i]) = false := by simpa using hne
        have HNO1 : Hid (∀ q ∈ d.ml.take (j + 1), q.1 ≠ i) := by
          intro q hq
          rw [List.take_add_one, HP.out] at hq
          rcases List.mem_append.1 hq with hq | hq
          · exact HNO.out q hq
          · simp at hq; rw [hq]; exact he
        have HNO3 : Hid (∀ q ∈ d.mr.take (j + 1), q.1 ≠ i) := by
          intro q hq
          rw [List.take_add_one, HP2.out] at hq
          rcases List.mem_append.1 hq with hq | hq
          · exact HNO2.out q hq
          · simp at hq; rw [hq, hpp]; exact he
        clear he hne hpp
        generalize Ty.letter p.1 = lp at *
        generalize Ty.letter i = li at *
        go_wp2_with fail
        refine wp_region_still_lit (by kernel_rfl) (by kernel_rfl) ?_
        change wpStill _ _ (World.drew _) (fun a' => _) _ _
        repeat still_step
        refine wpStill_nil ?_
        go_wp2_with fail
        go_roundw
        case rel => exact ⟨j + 1, by omega, by go_num, HFD.out, HNO1.out, HNO3.out⟩
        case measure => simp [intOf]; omega
    · have hjl : j = d.ns.length := by omega
      exfalso
      have hml : d.ml.length = d.ns.length := by have := congrArg List.length hsp.ol.names; simp at this; omega
      have h := HNO.out
      rw [hjl, ← hml, List.take_length] at h
      rw [szs_none.2 h] at HA
      exact absurd HA.out (by simp)
end Go.Proofs.YtloecimlimoanaaGreatDoor

/- What is related at pairs, as the model finds it. -/
namespace Go.Proofs.YtloecimlimoanaaGreatDoor
open Go.RowKit Go.ChangeMaps

/-- the parts of a tree, in every later world -/
theorem Sl.nodes {w : World} {A : Option Addr} {f : Bool} {l r : Ty} (h : Sl w (fun b => b < w.heap.size) A (Ty.n f l r).kids) :
    ∃ g o A1 c1 A2 c2, A = some ⟨g, o, none⟩ ∧ ∀ w', Fr No w w' → (w'.cell? ⟨g, o, none⟩ = some (S [Ty.sign f]) ∧ w'.cell? ⟨g, o + 2, none⟩ = some (S l.atom) ∧ w'.cell? ⟨g, o + 3, none⟩ = some (.slice A1 l.kids.len c1) ∧ w'.cell? ⟨g, o + 4, none⟩ = some (S r.atom) ∧ w'.cell? ⟨g, o + 5, none⟩ = some (.slice A2 r.kids.len c2) ∧ g < w'.heap.size) ∧
      Sl w' (fun b => b < w'.heap.size) A1 l.kids ∧ Sl w' (fun b => b < w'.heap.size) A2 r.kids := by
  rw [Ty.kids_n] at h
  obtain ⟨g, o, A0, c0, A1, c1, A2, c2, rfl, hg, q0, q1, q2, q3, q4, q5, s0, s1, s2, hl⟩ := h.three
  refine ⟨g, o, A1, c1, A2, c2, rfl, fun w' hf => ⟨⟨(hf.cell (p := ⟨g, o, none⟩) hl (fun h => h)).trans q0, (hf.cell (p := ⟨g, o + 2, none⟩) hl (fun h => h)).trans q2, (hf.cell (p := ⟨g, o + 3, none⟩) hl (fun h => h)).trans q3, (hf.cell (p := ⟨g, o + 4, none⟩) hl (fun h => h)).trans q4, (hf.cell (p := ⟨g, o + 5, none⟩) hl (fun h => h)).trans q5, Nat.lt_of_lt_of_le hl hf.size⟩, ?_, ?_⟩⟩
  · exact (s1.fr (fun b hb => hb) hf).mono (fun b hb => Nat.lt_of_lt_of_le hb hf.size) (fun _ _ => rfl)
  · exact (s2.fr (fun b hb => hb) hf).mono (fun b hb => Nat.lt_of_lt_of_le hb hf.size) (fun _ _ => rfl)

set_option maxRecDepth 100000 in
set_option maxHeartbeats 4000000 in
theorem re_pair (d : SpD) (ρ : Nat → Nat → Nat → Bool) (l r : Ty) (_ : l.lets) (hrl : r.lets) (ihl : ReSaid d ρ l) (ihr : ReSaid d ρ r) : ReSaid d ρ (.n false l r) := by
  intro w Q A c x y a b hS hA ha hb hx hy
  have hol := hS.ol
  have hor := hS.or
  have hba := ((Ty.n false l r).cnt_bounds hol.sz a ha).2
  have hbb := ((Ty.n false l r).cnt_bounds hor.sz b hb).2
  obtain ⟨la, ra, e1, e2, e3, _⟩ := Ty.cnt_n ha
  obtain ⟨lb, rb, e4, e5, e6, _⟩ := Ty.cnt_n hb
  simp only [if_false, Bool.false_eq_true] at e3 e6
  have n1 := r.cnt_bounds hol.sz ra e2
  have n2 := r.cnt_bounds hor.sz rb e5
  obtain ⟨g, o, A1, c1, A2, c2, rfl, HC⟩ := hA.nodes
  have HC := Lib.hid HC
  have b0 := Blk.new w 46 #[S [], .slice (some ⟨g, o, none⟩) 3 c]
  have hf0 : Fr No w (w.alloc (.cells #[S [], .slice (some ⟨g, o, none⟩) 3 c] 46)) := (Fr.refl _ _).alloc _
  have HX : Hid (∀ w', Fr No (w.alloc (.cells #[S [], .slice (some ⟨g, o, none⟩) 3 c] 46)) w' → (w'.cell? ⟨w.heap.size, 0, none⟩ = some (S []) ∧ w'.cell? ⟨w.heap.size, 1, none⟩ = some (.slice (some ⟨g, o, none⟩) 3 c) ∧ w.heap.size < w'.heap.size) ∧
      (w'.cell? ⟨Q, 0, none⟩ = some (.slice d.N d.ns.length d.nc) ∧ w'.cell? ⟨Q, 2, none⟩ = some (.slice d.L d.zl.length d.lc) ∧ w'.cell? ⟨Q, 3, none⟩ = some (.slice d.Z d.zr.length d.zc) ∧ Q < w'.heap.size) ∧
      (w'.cell? ⟨g, o, none⟩ = some (S [Ty.sign false]) ∧ w'.cell? ⟨g, o + 2, none⟩ = some (S l.atom) ∧ w'.cell? ⟨g, o + 3, none⟩ = some (.slice A1 l.kids.len c1) ∧ w'.cell? ⟨g, o + 4, none⟩ = some (S r.atom) ∧ w'.cell? ⟨g, o + 5, none⟩ = some (.slice A2 r.kids.len c2) ∧ g < w'.heap.size)) := fun w' hf => by
    have k := b0.fr hf (fun h => h)
    have s := hS.fr (hf0.trans hf)
    exact ⟨⟨(k.cell 0).trans rfl, (k.cell 1).trans rfl, k.lt⟩, ⟨(s.blk.cell 0).trans rfl, (s.blk.cell 2).trans rfl, (s.blk.cell 3).trans rfl, s.blk.lt⟩, (HC.out w' (hf0.trans hf)).1⟩
  have CTL : Hid (∀ w', Fr No (w.alloc (.cells #[S [], .slice (some ⟨g, o, none⟩) 3 c] 46)) w' → Calls Tryz.prog 66 #[.agg #[S r.atom, .slice A2 r.kids.len c2], .slice d.N d.ns.length d.nc, .slice d.L d.zl.length d.lc] w' fun e w2 => e = .returned (.int .i64 ra) ∧ Fr No w' w2) := fun w' hf => by
    have s := hS.fr (hf0.trans hf)
    have := ct_any d.ns d.zl d.ml hol r hrl w' _ A2 c2 d.N d.L d.nc d.lc (fun b hb => hb) (HC.out w' (hf0.trans hf)).2.2 s.nam s.lef
    rwa [cntI_some e2] at this
  have CTR : Hid (∀ w', Fr No (w.alloc (.cells #[S [], .slice (some ⟨g, o, none⟩) 3 c] 46)) w' → Calls Tryz.prog 66 #[.agg #[S r.atom, .slice A2 r.kids.len c2], .slice d.N d.ns.length d.nc, .slice d.Z d.zr.length d.zc] w' fun e w2 => e = .returned (.int .i64 rb) ∧ Fr No w' w2) := fun w' hf => by
    have s := hS.fr (hf0.trans hf)
    have := ct_any d.ns d.zr d.mr hor r hrl w' _ A2 c2 d.N d.Z d.nc d.zc (fun b hb => hb) (HC.out w' (hf0.trans hf)).2.2 s.nam s.rig
    rwa [cntI_some e5] at this
  have hcl : Hid (r.cn (szs d.ml) = ra ∧ r.cn (szs d.mr) = rb) := by
    show _ ∧ _
    simp [Ty.cn, e2, e5]
  obtain ⟨xq, hxq⟩ : ∃ z, z = x / ra := ⟨_, rfl⟩
  obtain ⟨xr, hxr⟩ : ∃ z, z = x % ra := ⟨_, rfl⟩
  obtain ⟨yq, hyq⟩ : ∃ z, z = y / rb := ⟨_, rfl⟩
  obtain ⟨yr, hyr⟩ : ∃ z, z = y % rb := ⟨_, rfl⟩
  have xq1 : xq < la := by rw [hxq]; exact Nat.div_lt_of_lt_mul (by rw [Nat.mul_comm, ← e3]; exact hx)
  have yq1 : yq < lb := by rw [hyq]; exact Nat.div_lt_of_lt_mul (by rw [Nat.mul_comm, ← e6]; exact hy)
  have xr1 : xr < ra := by rw [hxr]; exact Nat.mod_lt _ (by omega)
  have yr1 : yr < rb := by rw [hyr]; exact Nat.mod_lt _ (by omega)
  have REL : Hid (relT (szs d.ml) (szs d.mr) ρ (.n false l r) x y = (relT (szs d.ml) (szs d.mr) ρ l xq yq && relT (szs d.ml) (szs d.mr) ρ r xr yr)) := by
    show _ = _
    rw [relT, hcl.out.1, hcl.out.2, hxq, hxr, hyq, hyr]
  have RL : Hid (∀ w', Fr No (w.alloc (.cells #[S [], .slice (some ⟨g, o, none⟩) 3 c] 46)) w' → Calls Tryz.prog 41 #[Ptr Q, .agg #[S l.atom, .slice A1 l.kids.len c1], .int .i64 xq, .int .i64 yq] w' fun e w2 => e = .returned (.bool (relT (szs d.ml) (szs d.mr) ρ l xq yq)) ∧ Fr No w' w2) := fun w' hf =>
    ihl w' Q A1 c1 xq yq la lb (hS.fr (hf0.trans hf)) (HC.out w' (hf0.trans hf)).2.1 e1 e4 xq1 yq1
  have RR : Hid (∀ w', Fr No (w.alloc (.cells #[S [], .slice (some ⟨g, o, none⟩) 3 c] 46)) w' → Calls Tryz.prog 41 #[Ptr Q, .agg #[S r.atom, .slice A2 r.kids.len c2], .int .i64 xr, .int .i64 yr] w' fun e w2 => e = .returned (.bool (relT (szs d.ml) (szs d.mr) ρ r xr yr)) ∧ Fr No w' w2) := fun w' hf =>
    ihr w' Q A2 c2 xr yr ra rb (hS.fr (hf0.trans hf)) (HC.out w' (hf0.trans hf)).2.2 e2 e5 xr1 yr1
  have xq2 : xq ≤ x := by rw [hxq]; exact Nat.div_le_self _ _
  have yq2 : yq ≤ y := by rw [hyq]; exact Nat.div_le_self _ _
  have v1 : IntKind.i64.wrap ((x : Int) / (ra : Int)) = (xq : Int) := by rw [← Int.natCast_ediv, ← hxq]; exact IntWalk.i64_in _ (by omega)
  have V1 := Lib.hid v1
  clear v1
  have v2 : IntKind.i64.wrap ((x : Int) % (ra : Int)) = (xr : Int) := by rw [← Int.natCast_emod, ← hxr]; exact IntWalk.i64_in _ (by omega)
  have V2 := Lib.hid v2
  clear v2
  have v3 : IntKind.i64.wrap ((y : Int) / (rb : Int)) = (yq : Int) := by rw [← Int.natCast_ediv, ← hyq]; exact IntWalk.i64_in _ (by omega)
  have V3 := Lib.hid v3
  clear v3
  have v4 : IntKind.i64.wrap ((y : Int) % (rb : Int)) = (yr : Int) := by rw [← Int.natCast_emod, ← hyr]; exact IntWalk.i64_in _ (by omega)
  have V4 := Lib.hid v4
  clear v4
  have U2 : Hid ((x : Int).tmod (ra : Int) = (xr : Int)) := by
    show _ = _
    rw [Int.tmod_eq_emod_of_nonneg (by omega), ← Int.natCast_emod, ← hxr]
  have U4 : Hid ((y : Int).tmod (rb : Int) = (yr : Int)) := by
    show _ = _
    rw [Int.tmod_eq_emod_of_nonneg (by omega), ← Int.natCast_emod, ← hyr]
  have w1 : wrap64 ((x : Int) / (ra : Int)) = (xq : Int) := by rw [← Int.natCast_ediv, ← hxq]; exact IntWalk.wrap64_in _ ⟨by omega, by omega⟩
  have w2 : wrap64 ((x : Int) % (ra : Int)) = (xr : Int) := by rw [← Int.natCast_emod, ← hxr]; exact IntWalk.wrap64_in _ ⟨by omega, by omega⟩
  have w3 : wrap64 ((y : Int) / (rb : Int)) = (yq : Int) := by rw [← Int.natCast_ediv, ← hyq]; exact IntWalk.wrap64_in _ ⟨by omega, by omega⟩
  have w4 : wrap64 ((y : Int) % (rb : Int)) = (yr : Int) := by rw [← Int.natCast_emod, ← hyr]; exact IntWalk.wrap64_in _ ⟨by omega, by omega⟩
  have z1 : ((ra : Int) == 0) = false := beq_eq_false_iff_ne.2 (by omega)
  have z2 : ((rb : Int) == 0) = false := beq_eq_false_iff_ne.2 (by omega)
  have z3 : ¬ (ra : Int) = 0 := by omega
  have z4 : ¬ (rb : Int) = 0 := by omega
  have z5 : ¬ ra = 0 := by omega
  have z6 : ¬ rb = 0 := by omega
  have W1 := Lib.hid w1
  have W2 := Lib.hid w2
  have W3 := Lib.hid w3
  have W4 := Lib.hid w4
  have hlen3 : (Ty.n false l r).kids.len = 3 := rfl
  rw [hlen3, Ty.atom_n]
  clear HC hA hol hor hba hbb e1 e2 e3 e4 e5 e6 n1 n2 hxq hxr hyq hyr xq1 xr1 yq1 yr1 b0 ihl ihr hx hy ha hb hS hcl w1 w2 w3 w4 xq2 yq2
  obtain ⟨⟨x0, x1, x2⟩, ⟨p0, p2, p3, p4⟩, q0, q2, q3, q4, q5, q6⟩ := HX.out _ (Fr.refl _ _)
  go_enter Tryz.func41, Tryz.ntmps41
  go_wp2_with fail
  generalize hW : w.alloc (.cells #[S [], .slice (some ⟨g, o, none⟩) 3 c] 46) = W at *
  clear hW
  have hfd : Fr No W W.drew := (Fr.refl _ _).drew
  have HF0 := Lib.hid hf0
  go_region_held3 (fun w' => w'.cell? ⟨w.heap.size, 1, none⟩ = some (.slice (some ⟨g, o, none⟩) 3 c) ∧ w'.cell? ⟨Q, 0, none⟩ = some (.slice d.N d.ns.length d.nc) ∧ w'.cell? ⟨Q, 2, none⟩ = some (.slice d.L d.zl.length d.lc) ∧ w'.cell? ⟨g, o + 4, none⟩ = some (S r.atom) ∧ w'.cell? ⟨g, o + 5, none⟩ = some (.slice A2 r.kids.len c2)) (go_keep)
    (first | (go_at_call 66; ((with_reducible refine (CTL.out _ hfd).mono ?_); rintro e w4 ⟨rfl, hf4⟩; have HF4 := Lib.hid (hfd.trans hf4); obtain ⟨⟨x0, x1, x2⟩, ⟨p0, p2, p3, p4⟩, q0, q2, q3, q4, q5, q6⟩ := HX.out w4 (hfd.trans hf4); clear hf4)))
  have HG4 := Lib.hid HF4.out.drew
  obtain ⟨⟨x0, x1, x2⟩, ⟨p0, p2, p3, p4⟩, q0, q2, q3, q4, q5, q6⟩ := HX.out w4 HF4.out
  go_wp2_with fail
  go_region_held3 (fun w' => w'.cell? ⟨w.heap.size, 1, none⟩ = some (.slice (some ⟨g, o, none⟩) 3 c) ∧ w'.cell? ⟨Q, 0, none⟩ = some (.slice d.N d.ns.length d.nc) ∧ w'.cell? ⟨Q, 3, none⟩ = some (.slice d.Z d.zr.length d.zc) ∧ w'.cell? ⟨g, o + 4, none⟩ = some (S r.atom) ∧ w'.cell? ⟨g, o + 5, none⟩ = some (.slice A2 r.kids.len c2)) (go_keep)
    (first | (go_at_call 66; ((with_reducible refine (CTR.out _ HG4.out).mono ?_); rintro e w5 ⟨rfl, hf5⟩; have HF5 := Lib.hid (HG4.out.trans hf5); obtain ⟨⟨x0, x1, x2⟩, ⟨p0, p2, p3, p4⟩, q0, q2, q3, q4, q5, q6⟩ := HX.out w5 (HG4.out.trans hf5); clear hf5)))
  have HG5 := Lib.hid HF5.out.drew
  go_wp2_with fail
  cases hl1 : relT (szs d.ml) (szs d.mr) ρ l xq yq with
  | false =>
    have RLA : Hid (Calls Tryz.prog 41 #[Ptr Q, .agg #[S l.atom, .slice A1 l.kids.len c1], .int .i64 xq, .int .i64 yq] w5.drew fun e w2 => e = .returned (.bool false) ∧ Fr No w5.drew w2) := by
      have := RL.out _ HG5.out
      rwa [hl1] at this
    have FIN : Hid (relT (szs d.ml) (szs d.mr) ρ (.n false l r) x y = false) := by show _ = _; rw [REL.out, hl1]; rfl
    have w1 := W1.out
    have w3 := W3.out
    clear hl1 RL RR REL CTL CTR
    refine wp_region_held_drew (S := (fun w' => w'.cell? ⟨w.heap.size, 1, none⟩ = some (.slice (some ⟨g, o, none⟩) 3 c) ∧ w'.cell? ⟨g, o + 2, none⟩ = some (S l.atom) ∧ w'.cell? ⟨g, o + 3, none⟩ = some (.slice A1 l.kids.len c1))) (by kernel_rfl) ?hS (fun hHeld => ?_)
    case hS => (first | exact ⟨x1, q2, q3⟩ | (dsimp only; exact ⟨x1, q2, q3⟩))
    refine wpAnyH_take (i := 0) (v := ?v0) (by simp only [List.getElem?_toArray, List.getElem?_cons_zero]; rfl) (by kernel_rfl) (by kernel_rfl) (by kernel_rfl) (by exact fun _ _ _ h => h) (Or.inl ⟨by rfl, ?hy0⟩) (by assumption) ?rest0
    case hy0 => (intro w hSw; (try dsimp only at hSw); go_simp; try with_reducible rfl)
    try simp only [Act.put, List.setIfInBounds_toArray, List.set_cons_zero, List.set_cons_succ]
    refine wpAnyH_take (i := 1) (v := ?v1) (by simp only [List.getElem?_toArray, List.getElem?_cons_succ, List.getElem?_cons_zero]; rfl) (by kernel_rfl) (by kernel_rfl) (by kernel_rfl) (by exact fun _ _ _ h => h) (Or.inl ⟨by rfl, ?hy1⟩) (by assumption) ?rest1
    case hy1 => (intro w hSw; (try dsimp only at hSw); go_simp; try with_reducible rfl)
    try simp only [Act.put, List.setIfInBounds_toArray, List.set_cons_zero, List.set_cons_succ]
    refine wpAnyH_take (i := 2) (v := ?v2) (by simp only [List.getElem?_toArray, List.getElem?_cons_succ, List.getElem?_cons_zero]; rfl) (by kernel_rfl) (by kernel_rfl) (by kernel_rfl) (by exact fun _ _ _ h => h) (Or.inl ⟨by rfl, ?hy2⟩) (by assumption) ?rest2
    case hy2 => (intro w hSw; (try dsimp only at hSw); go_simp; try with_reducible rfl)
    try simp only [Act.put, List.setIfInBounds_toArray, List.set_cons_zero, List.set_cons_succ]
    refine wpAnyH_take (i := 3) (v := ?v3) (by simp only [List.getElem?_toArray, List.getElem?_cons_succ, List.getElem?_cons_zero]; rfl) (by kernel_rfl) (by kernel_rfl) (by kernel_rfl) (by exact fun _ _ _ h => h) (Or.inl ⟨by rfl, ?hy3⟩) (by assumption) ?rest3
    case hy3 => (intro w hSw; (try dsimp only at hSw); go_simp; try with_reducible rfl)
    try simp only [Act.put, List.setIfInBounds_toArray, List.set_cons_zero, List.set_cons_succ]
    refine wpAnyH_take (i := 4) (v := ?v4) (by simp only [List.getElem?_toArray, List.getElem?_cons_succ, List.getElem?_cons_zero]; rfl) (by kernel_rfl) (by kernel_rfl) (by kernel_rfl) (by exact fun _ _ _ h => h) (Or.inl ⟨by rfl, ?hy4⟩) (by assumption) ?rest4
    case hy4 => (intro w hSw; (try dsimp only at hSw); go_simp; try with_reducible rfl)
    try simp only [Act.put, List.setIfInBounds_toArray, List.set_cons_zero, List.set_cons_succ]
    refine wpAnyH_take (i := 5) (v := ?v5) (by simp only [List.getElem?_toArray, List.getElem?_cons_succ, List.getElem?_cons_zero]; rfl) (by kernel_rfl) (by kernel_rfl) (by kernel_rfl) (by exact fun _ _ _ h => h) (Or.inl ⟨by rfl, ?hy5⟩) (by assumption) ?rest5
    case hy5 => (intro w hSw; (try dsimp only at hSw); go_simp; try with_reducible rfl)
    try simp only [Act.put, List.setIfInBounds_toArray, List.set_cons_zero, List.set_cons_succ]
    refine wpAnyH_take (i := 6) (v := ?v6) (by simp only [List.getElem?_toArray, List.getElem?_cons_succ, List.getElem?_cons_zero]; rfl) (by kernel_rfl) (by kernel_rfl) (by kernel_rfl) (by exact fun _ _ _ h => h) (Or.inl ⟨by rfl, ?hy6⟩) (by assumption) ?rest6
    case hy6 => (intro w hSw; (try dsimp only at hSw); go_simp; try with_reducible rfl)
    try simp only [Act.put, List.setIfInBounds_toArray, List.set_cons_zero, List.set_cons_succ]
    refine wpAnyH_take (i := 7) (v := ?v7) (by simp only [List.getElem?_toArray, List.getElem?_cons_succ, List.getElem?_cons_zero]; rfl) (by kernel_rfl) (by kernel_rfl) (by kernel_rfl) (by exact fun _ _ _ h => h) (Or.inl ⟨by rfl, ?hy7⟩) (by assumption) ?rest7
    case hy7 => (intro w hSw; (try dsimp only at hSw); go_simp; try with_reducible rfl)
    try simp only [Act.put, List.setIfInBounds_toArray, List.set_cons_zero, List.set_cons_succ]
    refine wpAnyH_take (i := 8) (v := ?v8) (by simp only [List.getElem?_toArray, List.getElem?_cons_succ, List.getElem?_cons_zero]; rfl) (by kernel_rfl) (by kernel_rfl) (by kernel_rfl) (by exact fun _ _ _ h => h) (Or.inl ⟨by rfl, ?hy8⟩) (by assumption) ?rest8
    case hy8 => (intro w hSw; (try dsimp only at hSw); go_simp; try with_reducible rfl)
    try simp only [Act.put, List.setIfInBounds_toArray, List.set_cons_zero, List.set_cons_succ]
    refine wpAnyH_take (i := 9) (v := ?v9) (by simp only [List.getElem?_toArray, List.getElem?_cons_succ, List.getElem?_cons_zero]; rfl) (by kernel_rfl) (by kernel_rfl) (by kernel_rfl) (by exact fun _ _ _ h => h) (Or.inl ⟨by rfl, ?hy9⟩) (by assumption) ?rest9
    case hy9 => (intro w hSw; (try dsimp only at hSw); go_simp; try with_reducible rfl)
    try simp only [Act.put, List.setIfInBounds_toArray, List.set_cons_zero, List.set_cons_succ]
    refine wpAnyH_take (i := 10) (v := ?v10) (by simp only [List.getElem?_toArray, List.getElem?_cons_succ, List.getElem?_cons_zero]; rfl) (by kernel_rfl) (by kernel_rfl) (by kernel_rfl) (by exact fun _ _ _ h => h) (Or.inl ⟨by rfl, ?hy10⟩) (by assumption) ?rest10
    case hy10 => (intro w hSw; (try dsimp only at hSw); go_simp; try with_reducible rfl)
    try simp only [Act.put, List.setIfInBounds_toArray, List.set_cons_zero, List.set_cons_succ]
    refine wpAnyH_ready (rs := [11]) (by kernel_rfl) (by simp) ?_
    refine AllReadyH.cons rfl (fun K hK => ?_) AllReadyH.nil
    go_simp
    (first | rw [V1.out, V3.out] | rw [W1.out, W3.out] | skip); ((with_reducible refine RLA.out.mono ?_); rintro e w6 ⟨rfl, hf6⟩; have HF6 := Lib.hid (HG5.out.trans hf6); obtain ⟨⟨x0, x1, x2⟩, ⟨p0, p2, p3, p4⟩, q0, q2, q3, q4, q5, q6⟩ := HX.out w6 (HG5.out.trans hf6); clear hf6)
    refine hK.out _ _ ?hS_1 (fun hHeld_1 => ?_)
    case hS_1 => exact ⟨x1, q2, q3⟩
    clear hK K hHeld
    try simp only [Act.put, List.setIfInBounds_toArray, List.set_cons_zero, List.set_cons_succ]
    refine wpAnyH_take (i := 12) (v := ?v12) (by simp only [List.getElem?_toArray, List.getElem?_cons_succ, List.getElem?_cons_zero]; rfl) (by kernel_rfl) (by kernel_rfl) (by kernel_rfl) (by exact fun _ _ _ h => h) (Or.inl ⟨by rfl, ?hy12⟩) (by assumption) ?rest12
    case hy12 => (intro w hSw; (try dsimp only at hSw); go_simp; try with_reducible rfl)
    try simp only [Act.put, List.setIfInBounds_toArray, List.set_cons_zero, List.set_cons_succ]
    refine wpAnyH_take (i := 13) (v := undef) (by simp only [List.getElem?_toArray, List.getElem?_cons_succ, List.getElem?_cons_zero]; rfl) (by kernel_rfl) (by kernel_rfl) (by kernel_rfl) (by exact fun _ _ _ h => h) (Or.inr ⟨by rfl, rfl⟩) (by assumption) ?_
    try simp only [Act.put, List.setIfInBounds_toArray, List.set_cons_zero, List.set_cons_succ]
    refine wpAnyH_take (i := 14) (v := undef) (by simp only [List.getElem?_toArray, List.getElem?_cons_succ, List.getElem?_cons_zero]; rfl) (by kernel_rfl) (by kernel_rfl) (by kernel_rfl) (by exact fun _ _ _ h => h) (Or.inr ⟨by rfl, rfl⟩) (by assumption) ?_
    try simp only [Act.put, List.setIfInBounds_toArray, List.set_cons_zero, List.set_cons_succ]
    refine wpAnyH_take (i := 15) (v := undef) (by simp only [List.getElem?_toArray, List.getElem?_cons_succ, List.getElem?_cons_zero]; rfl) (by kernel_rfl) (by kernel_rfl) (by kernel_rfl) (by exact fun _ _ _ h => h) (Or.inr ⟨by rfl, rfl⟩) (by assumption) ?_
    try simp only [Act.put, List.setIfInBounds_toArray, List.set_cons_zero, List.set_cons_succ]
    refine wpAnyH_take (i := 16) (v := undef) (by simp only [List.getElem?_toArray, List.getElem?_cons_succ, List.getElem?_cons_zero]; rfl) (by kernel_rfl) (by kernel_rfl) (by kernel_rfl) (by exact fun _ _ _ h => h) (Or.inr ⟨by rfl, rfl⟩) (by assumption) ?_
    try simp only [Act.put, List.setIfInBounds_toArray, List.set_cons_zero, List.set_cons_succ]
    refine wpAnyH_take (i := 17) (v := undef) (by simp only [List.getElem?_toArray, List.getElem?_cons_succ, List.getElem?_cons_zero]; rfl) (by kernel_rfl) (by kernel_rfl) (by kernel_rfl) (by exact fun _ _ _ h => h) (Or.inr ⟨by rfl, rfl⟩) (by assumption) ?_
    try simp only [Act.put, List.setIfInBounds_toArray, List.set_cons_zero, List.set_cons_succ]
    refine wpAnyH_take (i := 18) (v := undef) (by simp only [List.getElem?_toArray, List.getElem?_cons_succ, List.getElem?_cons_zero]; rfl) (by kernel_rfl) (by kernel_rfl) (by kernel_rfl) (by exact fun _ _ _ h => h) (Or.inr ⟨by rfl, rfl⟩) (by assumption) ?_
    try simp only [Act.put, List.setIfInBounds_toArray, List.set_cons_zero, List.set_cons_succ]
    refine wpAnyH_take (i := 19) (v := undef) (by simp only [List.getElem?_toArray, List.getElem?_cons_succ, List.getElem?_cons_zero]; rfl) (by kernel_rfl) (by kernel_rfl) (by kernel_rfl) (by exact fun _ _ _ h => h) (Or.inr ⟨by rfl, rfl⟩) (by assumption) ?_
    try simp only [Act.put, List.setIfInBounds_toArray, List.set_cons_zero, List.set_cons_succ]
    refine wpAnyH_take (i := 20) (v := undef) (by simp only [List.getElem?_toArray, List.getElem?_cons_succ, List.getElem?_cons_zero]; rfl) (by kernel_rfl) (by kernel_rfl) (by kernel_rfl) (by exact fun _ _ _ h => h) (Or.inr ⟨by rfl, rfl⟩) (by assumption) ?_
    try simp only [Act.put, List.setIfInBounds_toArray, List.set_cons_zero, List.set_cons_succ]
    refine wpAnyH_take (i := 21) (v := undef) (by simp only [List.getElem?_toArray, List.getElem?_cons_succ, List.getElem?_cons_zero]; rfl) (by kernel_rfl) (by kernel_rfl) (by kernel_rfl) (by exact fun _ _ _ h => h) (Or.inr ⟨by rfl, rfl⟩) (by assumption) ?_
    try simp only [Act.put, List.setIfInBounds_toArray, List.set_cons_zero, List.set_cons_succ]
    refine wpAnyH_take (i := 22) (v := undef) (by simp only [List.getElem?_toArray, List.getElem?_cons_succ, List.getElem?_cons_zero]; rfl) (by kernel_rfl) (by kernel_rfl) (by kernel_rfl) (by exact fun _ _ _ h => h) (Or.inr ⟨by rfl, rfl⟩) (by assumption) ?_
    try simp only [Act.put, List.setIfInBounds_toArray, List.set_cons_zero, List.set_cons_succ]
    refine wpAnyH_take (i := 23) (v := undef) (by simp only [List.getElem?_toArray, List.getElem?_cons_succ, List.getElem?_cons_zero]; rfl) (by kernel_rfl) (by kernel_rfl) (by kernel_rfl) (by exact fun _ _ _ h => h) (Or.inr ⟨by rfl, rfl⟩) (by assumption) ?_
    try simp only [Act.put, List.setIfInBounds_toArray, List.set_cons_zero, List.set_cons_succ]
    refine wpAnyH_take (i := 24) (v := undef) (by simp only [List.getElem?_toArray, List.getElem?_cons_succ, List.getElem?_cons_zero]; rfl) (by kernel_rfl) (by kernel_rfl) (by kernel_rfl) (by exact fun _ _ _ h => h) (Or.inr ⟨by rfl, rfl⟩) (by assumption) ?_
    try simp only [Act.put, List.setIfInBounds_toArray, List.set_cons_zero, List.set_cons_succ]
    refine wpAnyH_take (i := 25) (v := ?v25) (by simp only [List.getElem?_toArray, List.getElem?_cons_succ, List.getElem?_cons_zero]; rfl) (by kernel_rfl) (by kernel_rfl) (by kernel_rfl) (by exact fun _ _ _ h => h) (Or.inl ⟨by rfl, ?hy25⟩) (by assumption) ?rest25
    case hy25 => (intro w hSw; (try dsimp only at hSw); go_simp; try with_reducible rfl)
    try simp only [Act.put, List.setIfInBounds_toArray, List.set_cons_zero, List.set_cons_succ]
    refine wpAnyH_take (i := 26) (v := ?v26) (by simp only [List.getElem?_toArray, List.getElem?_cons_succ, List.getElem?_cons_zero]; rfl) (by kernel_rfl) (by kernel_rfl) (by kernel_rfl) (by exact fun _ _ _ h => h) (Or.inl ⟨by rfl, ?hy26⟩) (by assumption) ?rest26
    case hy26 => (intro w hSw; (try dsimp only at hSw); go_simp; try with_reducible rfl)
    try simp only [Act.put, List.setIfInBounds_toArray, List.set_cons_zero, List.set_cons_succ]
    refine wpAnyH_done (by kernel_rfl) ?_ _
    go_wp2_with fail
    go_ret
    exact ⟨by rw [FIN.out]; rfl, HF0.out.trans HF6.out⟩
  | true =>
    have RLA : Hid (Calls Tryz.prog 41 #[Ptr Q, .agg #[S l.atom, .slice A1 l.kids.len c1], .int .i64 xq, .int .i64 yq] w5.drew fun e w2 => e = .returned (.bool true) ∧ Fr No w5.drew w2) := by
      have := RL.out _ HG5.out
      rwa [hl1] at this
    obtain ⟨br, hbr⟩ : ∃ z, z = relT (szs d.ml) (szs d.mr) ρ r xr yr := ⟨_, rfl⟩
    have FIN : Hid (relT (szs d.ml) (szs d.mr) ρ (.n false l r) x y = br) := by show _ = _; rw [REL.out, hl1, hbr]; rfl
    rw [← hbr] at RR
    have w1 := W1.out
    have w2 := W2.out
    have w3 := W3.out
    have w4' := W4.out
    clear hl1 RL REL CTL CTR hbr
    refine wp_region_held_drew (S := (fun w' => w'.cell? ⟨w.heap.size, 1, none⟩ = some (.slice (some ⟨g, o, none⟩) 3 c) ∧ w'.cell? ⟨g, o + 2, none⟩ = some (S l.atom) ∧ w'.cell? ⟨g, o + 3, none⟩ = some (.slice A1 l.kids.len c1) ∧ w'.cell? ⟨g, o + 4, none⟩ = some (S r.atom) ∧ w'.cell? ⟨g, o + 5, none⟩ = some (.slice A2 r.kids.len c2))) (by kernel_rfl) ?hST (fun hHeldT => ?_)
    case hST => (first | exact ⟨x1, q2, q3, q4, q5⟩ | (dsimp only; exact ⟨x1, q2, q3, q4, q5⟩))
    refine wpAnyH_take (i := 0) (v := ?vT0) (by simp only [List.getElem?_toArray, List.getElem?_cons_zero]; rfl) (by kernel_rfl) (by kernel_rfl) (by kernel_rfl) (by exact fun _ _ _ h => h) (Or.inl ⟨by rfl, ?hyT0⟩) (by assumption) ?restT0
    case hyT0 => (intro w hSw; (try dsimp only at hSw); go_simp; try with_reducible rfl)
    try simp only [Act.put, List.setIfInBounds_toArray, List.set_cons_zero, List.set_cons_succ]
    refine wpAnyH_take (i := 1) (v := ?vT1) (by simp only [List.getElem?_toArray, List.getElem?_cons_succ, List.getElem?_cons_zero]; rfl) (by kernel_rfl) (by kernel_rfl) (by kernel_rfl) (by exact fun _ _ _ h => h) (Or.inl ⟨by rfl, ?hyT1⟩) (by assumption) ?restT1
    case hyT1 => (intro w hSw; (try dsimp only at hSw); go_simp; try with_reducible rfl)
    try simp only [Act.put, List.setIfInBounds_toArray, List.set_cons_zero, List.set_cons_succ]
    refine wpAnyH_take (i := 2) (v := ?vT2) (by simp only [List.getElem?_toArray, List.getElem?_cons_succ, List.getElem?_cons_zero]; rfl) (by kernel_rfl) (by kernel_rfl) (by kernel_rfl) (by exact fun _ _ _ h => h) (Or.inl ⟨by rfl, ?hyT2⟩) (by assumption) ?restT2
    case hyT2 => (intro w hSw; (try dsimp only at hSw); go_simp; try with_reducible rfl)
    try simp only [Act.put, List.setIfInBounds_toArray, List.set_cons_zero, List.set_cons_succ]
    refine wpAnyH_take (i := 3) (v := ?vT3) (by simp only [List.getElem?_toArray, List.getElem?_cons_succ, List.getElem?_cons_zero]; rfl) (by kernel_rfl) (by kernel_rfl) (by kernel_rfl) (by exact fun _ _ _ h => h) (Or.inl ⟨by rfl, ?hyT3⟩) (by assumption) ?restT3
    case hyT3 => (intro w hSw; (try dsimp only at hSw); go_simp; try with_reducible rfl)
    try simp only [Act.put, List.setIfInBounds_toArray, List.set_cons_zero, List.set_cons_succ]
    refine wpAnyH_take (i := 4) (v := ?vT4) (by simp only [List.getElem?_toArray, List.getElem?_cons_succ, List.getElem?_cons_zero]; rfl) (by kernel_rfl) (by kernel_rfl) (by kernel_rfl) (by exact fun _ _ _ h => h) (Or.inl ⟨by rfl, ?hyT4⟩) (by assumption) ?restT4
    case hyT4 => (intro w hSw; (try dsimp only at hSw); go_simp; try with_reducible rfl)
    try simp only [Act.put, List.setIfInBounds_toArray, List.set_cons_zero, List.set_cons_succ]
    refine wpAnyH_take (i := 5) (v := ?vT5) (by simp only [List.getElem?_toArray, List.getElem?_cons_succ, List.getElem?_cons_zero]; rfl) (by kernel_rfl) (by kernel_rfl) (by kernel_rfl) (by exact fun _ _ _ h => h) (Or.inl ⟨by rfl, ?hyT5⟩) (by assumption) ?restT5
    case hyT5 => (intro w hSw; (try dsimp only at hSw); go_simp; try with_reducible rfl)
    try simp only [Act.put, List.setIfInBounds_toArray, List.set_cons_zero, List.set_cons_succ]
    refine wpAnyH_take (i := 6) (v := ?vT6) (by simp only [List.getElem?_toArray, List.getElem?_cons_succ, List.getElem?_cons_zero]; rfl) (by kernel_rfl) (by kernel_rfl) (by kernel_rfl) (by exact fun _ _ _ h => h) (Or.inl ⟨by rfl, ?hyT6⟩) (by assumption) ?restT6
    case hyT6 => (intro w hSw; (try dsimp only at hSw); go_simp; try with_reducible rfl)
    try simp only [Act.put, List.setIfInBounds_toArray, List.set_cons_zero, List.set_cons_succ]
    refine wpAnyH_take (i := 7) (v := ?vT7) (by simp only [List.getElem?_toArray, List.getElem?_cons_succ, List.getElem?_cons_zero]; rfl) (by kernel_rfl) (by kernel_rfl) (by kernel_rfl) (by exact fun _ _ _ h => h) (Or.inl ⟨by rfl, ?hyT7⟩) (by assumption) ?restT7
    case hyT7 => (intro w hSw; (try dsimp only at hSw); go_simp; try with_reducible rfl)
    try simp only [Act.put, List.setIfInBounds_toArray, List.set_cons_zero, List.set_cons_succ]
    refine wpAnyH_take (i := 8) (v := ?vT8) (by simp only [List.getElem?_toArray, List.getElem?_cons_succ, List.getElem?_cons_zero]; rfl) (by kernel_rfl) (by kernel_rfl) (by kernel_rfl) (by exact fun _ _ _ h => h) (Or.inl ⟨by rfl, ?hyT8⟩) (by assumption) ?restT8
    case hyT8 => (intro w hSw; (try dsimp only at hSw); go_simp; try with_reducible rfl)
    try simp only [Act.put, List.setIfInBounds_toArray, List.set_cons_zero, List.set_cons_succ]
    refine wpAnyH_take (i := 9) (v := ?vT9) (by simp only [List.getElem?_toArray, List.getElem?_cons_succ, List.getElem?_cons_zero]; rfl) (by kernel_rfl) (by kernel_rfl) (by kernel_rfl) (by exact fun _ _ _ h => h) (Or.inl ⟨by rfl, ?hyT9⟩) (by assumption) ?restT9
    case hyT9 => (intro w hSw; (try dsimp only at hSw); go_simp; try with_reducible rfl)
    try simp only [Act.put, List.setIfInBounds_toArray, List.set_cons_zero, List.set_cons_succ]
    refine wpAnyH_take (i := 10) (v := ?vT10) (by simp only [List.getElem?_toArray, List.getElem?_cons_succ, List.getElem?_cons_zero]; rfl) (by kernel_rfl) (by kernel_rfl) (by kernel_rfl) (by exact fun _ _ _ h => h) (Or.inl ⟨by rfl, ?hyT10⟩) (by assumption) ?restT10
    case hyT10 => (intro w hSw; (try dsimp only at hSw); go_simp; try with_reducible rfl)
    try simp only [Act.put, List.setIfInBounds_toArray, List.set_cons_zero, List.set_cons_succ]
    refine wpAnyH_ready (rs := [11]) (by kernel_rfl) (by simp) ?_
    refine AllReadyH.cons rfl (fun K hK => ?_) AllReadyH.nil
    go_simp
    (first | rw [V1.out, V3.out] | rw [W1.out, W3.out] | skip); ((with_reducible refine RLA.out.mono ?_); rintro e w6 ⟨rfl, hf6⟩; have HF6 := Lib.hid (HG5.out.trans hf6); obtain ⟨⟨x0, x1, x2⟩, ⟨p0, p2, p3, p4⟩, q0, q2, q3, q4, q5, q6⟩ := HX.out w6 (HG5.out.trans hf6); clear hf6)
    refine hK.out _ _ ?hST_1 (fun hHeldT_1 => ?_)
    case hST_1 => exact ⟨x1, q2, q3, q4, q5⟩
    clear hK K hHeldT
    try simp only [Act.put, List.setIfInBounds_toArray, List.set_cons_zero, List.set_cons_succ]
    refine wpAnyH_take (i := 12) (v := ?vT12) (by simp only [List.getElem?_toArray, List.getElem?_cons_succ, List.getElem?_cons_zero]; rfl) (by kernel_rfl) (by kernel_rfl) (by kernel_rfl) (by exact fun _ _ _ h => h) (Or.inl ⟨by rfl, ?hyT12⟩) (by assumption) ?restT12
    case hyT12 => (intro w hSw; (try dsimp only at hSw); go_simp; try with_reducible rfl)
    try simp only [Act.put, List.setIfInBounds_toArray, List.set_cons_zero, List.set_cons_succ]
    refine wpAnyH_take (i := 13) (v := ?vT13) (by simp only [List.getElem?_toArray, List.getElem?_cons_succ, List.getElem?_cons_zero]; rfl) (by kernel_rfl) (by kernel_rfl) (by kernel_rfl) (by exact fun _ _ _ h => h) (Or.inl ⟨by rfl, ?hyT13⟩) (by assumption) ?restT13
    case hyT13 => (intro w hSw; (try dsimp only at hSw); go_simp; try with_reducible rfl)
    try simp only [Act.put, List.setIfInBounds_toArray, List.set_cons_zero, List.set_cons_succ]
    refine wpAnyH_take (i := 14) (v := ?vT14) (by simp only [List.getElem?_toArray, List.getElem?_cons_succ, List.getElem?_cons_zero]; rfl) (by kernel_rfl) (by kernel_rfl) (by kernel_rfl) (by exact fun _ _ _ h => h) (Or.inl ⟨by rfl, ?hyT14⟩) (by assumption) ?restT14
    case hyT14 => (intro w hSw; (try dsimp only at hSw); go_simp; try with_reducible rfl)
    try simp only [Act.put, List.setIfInBounds_toArray, List.set_cons_zero, List.set_cons_succ]
    refine wpAnyH_take (i := 15) (v := ?vT15) (by simp only [List.getElem?_toArray, List.getElem?_cons_succ, List.getElem?_cons_zero]; rfl) (by kernel_rfl) (by kernel_rfl) (by kernel_rfl) (by exact fun _ _ _ h => h) (Or.inl ⟨by rfl, ?hyT15⟩) (by assumption) ?restT15
    case hyT15 => (intro w hSw; (try dsimp only at hSw); go_simp; try with_reducible rfl)
    try simp only [Act.put, List.setIfInBounds_toArray, List.set_cons_zero, List.set_cons_succ]
    refine wpAnyH_take (i := 16) (v := ?vT16) (by simp only [List.getElem?_toArray, List.getElem?_cons_succ, List.getElem?_cons_zero]; rfl) (by kernel_rfl) (by kernel_rfl) (by kernel_rfl) (by exact fun _ _ _ h => h) (Or.inl ⟨by rfl, ?hyT16⟩) (by assumption) ?restT16
    case hyT16 => (intro w hSw; (try dsimp only at hSw); go_simp; try with_reducible rfl)
    try simp only [Act.put, List.setIfInBounds_toArray, List.set_cons_zero, List.set_cons_succ]
    refine wpAnyH_take (i := 17) (v := ?vT17) (by simp only [List.getElem?_toArray, List.getElem?_cons_succ, List.getElem?_cons_zero]; rfl) (by kernel_rfl) (by kernel_rfl) (by kernel_rfl) (by exact fun _ _ _ h => h) (Or.inl ⟨by rfl, ?hyT17⟩) (by assumption) ?restT17
    case hyT17 => (intro w hSw; (try dsimp only at hSw); go_simp; try with_reducible rfl)
    try simp only [Act.put, List.setIfInBounds_toArray, List.set_cons_zero, List.set_cons_succ]
    refine wpAnyH_take (i := 18) (v := ?vT18) (by simp only [List.getElem?_toArray, List.getElem?_cons_succ, List.getElem?_cons_zero]; rfl) (by kernel_rfl) (by kernel_rfl) (by kernel_rfl) (by exact fun _ _ _ h => h) (Or.inl ⟨by rfl, ?hyT18⟩) (by assumption) ?restT18
    case hyT18 => (intro w hSw; (try dsimp only at hSw); go_simp; try with_reducible rfl)
    try simp only [Act.put, List.setIfInBounds_toArray, List.set_cons_zero, List.set_cons_succ]
    refine wpAnyH_take (i := 19) (v := ?vT19) (by simp only [List.getElem?_toArray, List.getElem?_cons_succ, List.getElem?_cons_zero]; rfl) (by kernel_rfl) (by kernel_rfl) (by kernel_rfl) (by exact fun _ _ _ h => h) (Or.inl ⟨by rfl, ?hyT19⟩) (by assumption) ?restT19
    case hyT19 => (intro w hSw; (try dsimp only at hSw); go_simp; try with_reducible rfl)
    try simp only [Act.put, List.setIfInBounds_toArray, List.set_cons_zero, List.set_cons_succ]
    refine wpAnyH_take (i := 20) (v := ?vT20) (by simp only [List.getElem?_toArray, List.getElem?_cons_succ, List.getElem?_cons_zero]; rfl) (by kernel_rfl) (by kernel_rfl) (by kernel_rfl) (by exact fun _ _ _ h => h) (Or.inl ⟨by rfl, ?hyT20⟩) (by assumption) ?restT20
    case hyT20 => (intro w hSw; (try dsimp only at hSw); go_simp; try with_reducible rfl)
    try simp only [Act.put, List.setIfInBounds_toArray, List.set_cons_zero, List.set_cons_succ]
    refine wpAnyH_take (i := 21) (v := ?vT21) (by simp only [List.getElem?_toArray, List.getElem?_cons_succ, List.getElem?_cons_zero]; rfl) (by kernel_rfl) (by kernel_rfl) (by kernel_rfl) (by exact fun _ _ _ h => h) (Or.inl ⟨by rfl, ?hyT21⟩) (by assumption) ?restT21
    case hyT21 => (intro w hSw; (try dsimp only at hSw); go_simp; try with_reducible rfl)
    try simp only [Act.put, List.setIfInBounds_toArray, List.set_cons_zero, List.set_cons_succ]
    refine wpAnyH_take (i := 22) (v := ?vT22) (by simp only [List.getElem?_toArray, List.getElem?_cons_succ, List.getElem?_cons_zero]; rfl) (by kernel_rfl) (by kernel_rfl) (by kernel_rfl) (by exact fun _ _ _ h => h) (Or.inl ⟨by rfl, ?hyT22⟩) (by assumption) ?restT22
    case hyT22 => (intro w hSw; (try dsimp only at hSw); go_simp; try with_reducible rfl)
    try simp only [Act.put, List.setIfInBounds_toArray, List.set_cons_zero, List.set_cons_succ]
    refine wpAnyH_take (i := 23) (v := ?vT23) (by simp only [List.getElem?_toArray, List.getElem?_cons_succ, List.getElem?_cons_zero]; rfl) (by kernel_rfl) (by kernel_rfl) (by kernel_rfl) (by exact fun _ _ _ h => h) (Or.inl ⟨by rfl, ?hyT23⟩) (by assumption) ?restT23
    case hyT23 => (intro w hSw; (try dsimp only at hSw); go_simp; try with_reducible rfl)
    try simp only [Act.put, List.setIfInBounds_toArray, List.set_cons_zero, List.set_cons_succ]
    refine wpAnyH_ready (rs := [24]) (by kernel_rfl) (by simp) ?_
    refine AllReadyH.cons rfl (fun K hK => ?_) AllReadyH.nil
    go_simp
    (first | rw [U2.out, U4.out] | rw [V2.out, V4.out] | rw [W2.out, W4.out] | skip); ((with_reducible refine (RR.out _ HF6.out).mono ?_); rintro e w7 ⟨rfl, hf7⟩; have HF7 := Lib.hid (HF6.out.trans hf7); obtain ⟨⟨x0, x1, x2⟩, ⟨p0, p2, p3, p4⟩, q0, q2, q3, q4, q5, q6⟩ := HX.out w7 (HF6.out.trans hf7); clear hf7)
    refine hK.out _ _ ?hST_2 (fun hHeldT_2 => ?_)
    case hST_2 => exact ⟨x1, q2, q3, q4, q5⟩
    clear hK K hHeldT_1
    try simp only [Act.put, List.setIfInBounds_toArray, List.set_cons_zero, List.set_cons_succ]
    refine wpAnyH_take (i := 25) (v := ?vT25) (by simp only [List.getElem?_toArray, List.getElem?_cons_succ, List.getElem?_cons_zero]; rfl) (by kernel_rfl) (by kernel_rfl) (by kernel_rfl) (by exact fun _ _ _ h => h) (Or.inl ⟨by rfl, ?hyT25⟩) (by assumption) ?restT25
    case hyT25 => (intro w hSw; (try dsimp only at hSw); go_simp; try with_reducible rfl)
    try simp only [Act.put, List.setIfInBounds_toArray, List.set_cons_zero, List.set_cons_succ]
    refine wpAnyH_take (i := 26) (v := ?vT26) (by simp only [List.getElem?_toArray, List.getElem?_cons_succ, List.getElem?_cons_zero]; rfl) (by kernel_rfl) (by kernel_rfl) (by kernel_rfl) (by exact fun _ _ _ h => h) (Or.inl ⟨by rfl, ?hyT26⟩) (by assumption) ?restT26
    case hyT26 => (intro w hSw; (try dsimp only at hSw); go_simp; try with_reducible rfl)
    try simp only [Act.put, List.setIfInBounds_toArray, List.set_cons_zero, List.set_cons_succ]
    refine wpAnyH_done (by kernel_rfl) ?_ _
    go_wp2_with fail
    go_ret
    exact ⟨by rw [FIN.out]; rfl, HF0.out.trans HF7.out⟩
end Go.Proofs.YtloecimlimoanaaGreatDoor

/- What is related at functions, as the model finds it. -/
namespace Go.Proofs.YtloecimlimoanaaGreatDoor
open Go.RowKit Go.ChangeMaps

set_option maxRecDepth 100000 in
set_option maxHeartbeats 4000000 in
theorem re_fun (d : SpD) (ρ : Nat → Nat → Nat → Bool) (l r : Ty) (hll : l.lets) (hrl : r.lets) (ihl : ReSaid d ρ l) (ihr : ReSaid d ρ r) : ReSaid d ρ (.n true l r) := by
  intro w Q A c x y a b hS hA ha hb hx hy
  have hol := hS.ol
  have hor := hS.or
  have hba := ((Ty.n true l r).cnt_bounds hol.sz a ha).2
  have hbb := ((Ty.n true l r).cnt_bounds hor.sz b hb).2
  obtain ⟨la, ra, e1, e2, e3, _⟩ := Ty.cnt_n ha
  obtain ⟨lb, rb, e4, e5, e6, _⟩ := Ty.cnt_n hb
  simp only [if_true] at e3 e6
  have n3 := l.cnt_bounds hol.sz la e1
  have n4 := l.cnt_bounds hor.sz lb e4
  have n1 := r.cnt_bounds hol.sz ra e2
  have n2 := r.cnt_bounds hor.sz rb e5
  obtain ⟨g, o, A1, c1, A2, c2, rfl, HC⟩ := hA.nodes
  have HC := Lib.hid HC
  have b0 := Blk.new w 46 #[S [], .slice (some ⟨g, o, none⟩) 3 c]
  have hf0 : Fr No w (w.alloc (.cells #[S [], .slice (some ⟨g, o, none⟩) 3 c] 46)) := (Fr.refl _ _).alloc _
  have HX : Hid (∀ w', Fr No (w.alloc (.cells #[S [], .slice (some ⟨g, o, none⟩) 3 c] 46)) w' → (w'.cell? ⟨w.heap.size, 0, none⟩ = some (S []) ∧ w'.cell? ⟨w.heap.size, 1, none⟩ = some (.slice (some ⟨g, o, none⟩) 3 c) ∧ w.heap.size < w'.heap.size) ∧
      (w'.cell? ⟨Q, 0, none⟩ = some (.slice d.N d.ns.length d.nc) ∧ w'.cell? ⟨Q, 2, none⟩ = some (.slice d.L d.zl.length d.lc) ∧ w'.cell? ⟨Q, 3, none⟩ = some (.slice d.Z d.zr.length d.zc) ∧ Q < w'.heap.size) ∧
      (w'.cell? ⟨g, o, none⟩ = some (S [Ty.sign true]) ∧ w'.cell? ⟨g, o + 2, none⟩ = some (S l.atom) ∧ w'.cell? ⟨g, o + 3, none⟩ = some (.slice A1 l.kids.len c1) ∧ w'.cell? ⟨g, o + 4, none⟩ = some (S r.atom) ∧ w'.cell? ⟨g, o + 5, none⟩ = some (.slice A2 r.kids.len c2) ∧ g < w'.heap.size)) := fun w' hf => by
    have k := b0.fr hf (fun h => h)
    have s := hS.fr (hf0.trans hf)
    exact ⟨⟨(k.cell 0).trans rfl, (k.cell 1).trans rfl, k.lt⟩, ⟨(s.blk.cell 0).trans rfl, (s.blk.cell 2).trans rfl, (s.blk.cell 3).trans rfl, s.blk.lt⟩, (HC.out w' (hf0.trans hf)).1⟩
  have CTL : Hid (∀ w', Fr No (w.alloc (.cells #[S [], .slice (some ⟨g, o, none⟩) 3 c] 46)) w' → Calls Tryz.prog 66 #[.agg #[S r.atom, .slice A2 r.kids.len c2], .slice d.N d.ns.length d.nc, .slice d.L d.zl.length d.lc] w' fun e w2 => e = .returned (.int .i64 ra) ∧ Fr No w' w2) := fun w' hf => by
    have s := hS.fr (hf0.trans hf)
    have := ct_any d.ns d.zl d.ml hol r hrl w' _ A2 c2 d.N d.L d.nc d.lc (fun b hb => hb) (HC.out w' (hf0.trans hf)).2.2 s.nam s.lef
    rwa [cntI_some e2] at this
  have CTR : Hid (∀ w', Fr No (w.alloc (.cells #[S [], .slice (some ⟨g, o, none⟩) 3 c] 46)) w' → Calls Tryz.prog 66 #[.agg #[S r.atom, .slice A2 r.kids.len c2], .slice d.N d.ns.length d.nc, .slice d.Z d.zr.length d.zc] w' fun e w2 => e = .returned (.int .i64 rb) ∧ Fr No w' w2) := fun w' hf => by
    have s := hS.fr (hf0.trans hf)
    have := ct_any d.ns d.zr d.mr hor r hrl w' _ A2 c2 d.N d.Z d.nc d.zc (fun b hb => hb) (HC.out w' (hf0.trans hf)).2.2 s.nam s.rig
    rwa [cntI_some e5] at this
  have CLL : Hid (∀ w', Fr No (w.alloc (.cells #[S [], .slice (some ⟨g, o, none⟩) 3 c] 46)) w' → Calls Tryz.prog 66 #[.agg #[S l.atom, .slice A1 l.kids.len c1], .slice d.N d.ns.length d.nc, .slice d.L d.zl.length d.lc] w' fun e w2 => e = .returned (.int .i64 la) ∧ Fr No w' w2) := fun w' hf => by
    have s := hS.fr (hf0.trans hf)
    have := ct_any d.ns d.zl d.ml hol l hll w' _ A1 c1 d.N d.L d.nc d.lc (fun b hb => hb) (HC.out w' (hf0.trans hf)).2.1 s.nam s.lef
    rwa [cntI_some e1] at this
  have CLR : Hid (∀ w', Fr No (w.alloc (.cells #[S [], .slice (some ⟨g, o, none⟩) 3 c] 46)) w' → Calls Tryz.prog 66 #[.agg #[S l.atom, .slice A1 l.kids.len c1], .slice d.N d.ns.length d.nc, .slice d.Z d.zr.length d.zc] w' fun e w2 => e = .returned (.int .i64 lb) ∧ Fr No w' w2) := fun w' hf => by
    have s := hS.fr (hf0.trans hf)
    have := ct_any d.ns d.zr d.mr hor l hll w' _ A1 c1 d.N d.Z d.nc d.zc (fun b hb => hb) (HC.out w' (hf0.trans hf)).2.1 s.nam s.rig
    rwa [cntI_some e4] at this
  have hcl : Hid ((r.cn (szs d.ml) = ra ∧ r.cn (szs d.mr) = rb) ∧ l.cn (szs d.ml) = la ∧ l.cn (szs d.mr) = lb) := by
    show _ ∧ _
    simp [Ty.cn, e1, e2, e4, e5]
  have RELT : Hid ((∀ i, i < la → ∀ j, j < lb → relT (szs d.ml) (szs d.mr) ρ l i j = true → relT (szs d.ml) (szs d.mr) ρ r (x / ra ^ i % ra) (y / rb ^ j % rb) = true) → relT (szs d.ml) (szs d.mr) ρ (.n true l r) x y = true) := by
    intro h
    rw [relT, hcl.out.1.1, hcl.out.1.2, hcl.out.2.1, hcl.out.2.2, List.all_eq_true]
    intro i hi
    rw [List.all_eq_true]
    intro j hj
    have := h i (List.mem_range.1 hi) j (List.mem_range.1 hj)
    cases h1 : relT (szs d.ml) (szs d.mr) ρ l i j with
    | false => rfl
    | true => rw [this h1]; rfl
  have RELF : Hid (∀ i j, i < la → j < lb → relT (szs d.ml) (szs d.mr) ρ l i j = true → relT (szs d.ml) (szs d.mr) ρ r (x / ra ^ i % ra) (y / rb ^ j % rb) = false → relT (szs d.ml) (szs d.mr) ρ (.n true l r) x y = false) := by
    intro i j hi hj h1 h2
    apply Bool.eq_false_iff.2
    intro h
    rw [relT, hcl.out.1.1, hcl.out.1.2, hcl.out.2.1, hcl.out.2.2, List.all_eq_true] at h
    have h3 := List.all_eq_true.1 (h i (List.mem_range.2 hi)) j (List.mem_range.2 hj)
    rw [h1, h2] at h3
    cases h3
  have RL : Hid (∀ w' i j, i < la → j < lb → Fr No (w.alloc (.cells #[S [], .slice (some ⟨g, o, none⟩) 3 c] 46)) w' → Calls Tryz.prog 41 #[Ptr Q, .agg #[S l.atom, .slice A1 l.kids.len c1], .int .i64 i, .int .i64 j] w' fun e w2 => e = .returned (.bool (relT (szs d.ml) (szs d.mr) ρ l i j)) ∧ Fr No w' w2) := fun w' i j hi hj hf =>
    ihl w' Q A1 c1 i j la lb (hS.fr (hf0.trans hf)) (HC.out w' (hf0.trans hf)).2.1 e1 e4 hi hj
  have RR : Hid (∀ w' i j, i < ra → j < rb → Fr No (w.alloc (.cells #[S [], .slice (some ⟨g, o, none⟩) 3 c] 46)) w' → Calls Tryz.prog 41 #[Ptr Q, .agg #[S r.atom, .slice A2 r.kids.len c2], .int .i64 i, .int .i64 j] w' fun e w2 => e = .returned (.bool (relT (szs d.ml) (szs d.mr) ρ r i j)) ∧ Fr No w' w2) := fun w' i j hi hj hf =>
    ihr w' Q A2 c2 i j ra rb (hS.fr (hf0.trans hf)) (HC.out w' (hf0.trans hf)).2.2 e2 e5 hi hj
  have hx4 : x ≤ 4096 := by omega
  have hy4 : y ≤ 4096 := by omega
  have HX4 := Lib.hid hx4
  have HY4 := Lib.hid hy4
  have HNB := Lib.hid (And.intro n1 n2)
  have raI : (1 : Int) ≤ (ra : Int) := by omega
  have raI2 : (ra : Int) ≤ 4096 := by omega
  have rbI : (1 : Int) ≤ (rb : Int) := by omega
  have rbI2 : (rb : Int) ≤ 4096 := by omega
  have laI2 : (la : Int) ≤ 4096 := by omega
  have lbI2 : (lb : Int) ≤ 4096 := by omega
  have hlen3 : (Ty.n true l r).kids.len = 3 := rfl
  rw [hlen3, Ty.atom_n]
  clear HC hA hol hor hba hbb e1 e2 e3 e4 e5 e6 n1 n2 n3 n4 b0 ihl ihr hx hy ha hb hS hcl hx4 hy4
  obtain ⟨⟨x0, x1, x2⟩, ⟨p0, p2, p3, p4⟩, q0, q2, q3, q4, q5, q6⟩ := HX.out _ (Fr.refl _ _)
  go_enter Tryz.func41, Tryz.ntmps41
  go_wp2_with fail
  generalize hW : (w.alloc (.cells #[S [], .slice (some ⟨g, o, none⟩) 3 c] 46)) = W at *
  clear hW
  have hfd : Fr No W W.drew := (Fr.refl _ _).drew
  have HF0 := Lib.hid hf0
  go_region_held3 (fun w' => w'.cell? ⟨w.heap.size, 1, none⟩ = some (.slice (some ⟨g, o, none⟩) 3 c) ∧ w'.cell? ⟨Q, 0, none⟩ = some (.slice d.N d.ns.length d.nc) ∧ w'.cell? ⟨Q, 2, none⟩ = some (.slice d.L d.zl.length d.lc) ∧ w'.cell? ⟨g, o + 4, none⟩ = some (S r.atom) ∧ w'.cell? ⟨g, o + 5, none⟩ = some (.slice A2 r.kids.len c2)) (go_keep)
    (first | (go_at_call 66; ((with_reducible refine (CTL.out _ hfd).mono ?_); rintro e w4 ⟨rfl, hf4⟩; have HF4 := Lib.hid (hfd.trans hf4); obtain ⟨⟨x0, x1, x2⟩, ⟨p0, p2, p3, p4⟩, q0, q2, q3, q4, q5, q6⟩ := HX.out w4 (hfd.trans hf4); clear hf4)))
  have HG4 := Lib.hid HF4.out.drew
  go_wp2_with fail
  go_region_held3 (fun w' => w'.cell? ⟨w.heap.size, 1, none⟩ = some (.slice (some ⟨g, o, none⟩) 3 c) ∧ w'.cell? ⟨Q, 0, none⟩ = some (.slice d.N d.ns.length d.nc) ∧ w'.cell? ⟨Q, 3, none⟩ = some (.slice d.Z d.zr.length d.zc) ∧ w'.cell? ⟨g, o + 4, none⟩ = some (S r.atom) ∧ w'.cell? ⟨g, o + 5, none⟩ = some (.slice A2 r.kids.len c2)) (go_keep)
    (first | (go_at_call 66; ((with_reducible refine (CTR.out _ HG4.out).mono ?_); rintro e w5 ⟨rfl, hf4⟩; have HF5 := Lib.hid (HG4.out.trans hf4); obtain ⟨⟨x0, x1, x2⟩, ⟨p0, p2, p3, p4⟩, q0, q2, q3, q4, q5, q6⟩ := HX.out w5 (HG4.out.trans hf4); clear hf4)))
  have HG5 := Lib.hid HF5.out.drew
  go_wp2_with fail
  go_region_held3 (fun w' => w'.cell? ⟨w.heap.size, 1, none⟩ = some (.slice (some ⟨g, o, none⟩) 3 c) ∧ w'.cell? ⟨Q, 0, none⟩ = some (.slice d.N d.ns.length d.nc) ∧ w'.cell? ⟨Q, 2, none⟩ = some (.slice d.L d.zl.length d.lc) ∧ w'.cell? ⟨g, o + 2, none⟩ = some (S l.atom) ∧ w'.cell? ⟨g, o + 3, none⟩ = some (.slice A1 l.kids.len c1)) (go_keep)
    (first | (go_at_call 66; ((with_reducible refine (CLL.out _ HG5.out).mono ?_); rintro e w6 ⟨rfl, hf4⟩; have HF6 := Lib.hid (HG5.out.trans hf4); obtain ⟨⟨x0, x1, x2⟩, ⟨p0, p2, p3, p4⟩, q0, q2, q3, q4, q5, q6⟩ := HX.out w6 (HG5.out.trans hf4); clear hf4)))
  have HG6 := Lib.hid HF6.out.drew
  go_wp2_with fail
  go_region_held3 (fun w' => w'.cell? ⟨w.heap.size, 1, none⟩ = some (.slice (some ⟨g, o, none⟩) 3 c) ∧ w'.cell? ⟨Q, 0, none⟩ = some (.slice d.N d.ns.length d.nc) ∧ w'.cell? ⟨Q, 3, none⟩ = some (.slice d.Z d.zr.length d.zc) ∧ w'.cell? ⟨g, o + 2, none⟩ = some (S l.atom) ∧ w'.cell? ⟨g, o + 3, none⟩ = some (.slice A1 l.kids.len c1)) (go_keep)
    (first | (go_at_call 66; ((with_reducible refine (CLR.out _ HG6.out).mono ?_); rintro e w7 ⟨rfl, hf4⟩; have HF7 := Lib.hid (HG6.out.trans hf4); obtain ⟨⟨x0, x1, x2⟩, ⟨p0, p2, p3, p4⟩, q0, q2, q3, q4, q5, q6⟩ := HX.out w7 (HG6.out.trans hf4); clear hf4)))
  go_wp2_with fail
  have HW7 := Lib.hid (HF0.out.trans HF7.out)
  clear hf0 hfd x0 x1 x2 p0 p2 p3 p4 q0 q2 q3 q4 q5 q6 CTL CTR CLL CLR HG4 HG5 HG6
  go_loopw [2, 14] (fun v u wr => ∃ (i : Nat), i ≤ la ∧ u = .int .i64 i ∧ v = .int .i64 ((x / ra ^ i : Nat) : Int) ∧ Fr No W wr ∧ ∀ i', i' < i → ∀ j, j < lb → relT (szs d.ml) (szs d.mr) ρ l i' j = true → relT (szs d.ml) (szs d.mr) ρ r (x / ra ^ i' % ra) (y / rb ^ j % rb) = true) (fun _ u _ => la - (intOf u).toNat)
  case atStart => exact ⟨0, Nat.zero_le _, rfl, by simp, HF7.out, fun i' h => by omega⟩
  case round =>
    obtain ⟨i, hi, rfl, rfl, hfr, hall⟩ := hrel
    have HF := Lib.hid hfr
    have HALL := Lib.hid hall
    clear hfr hall
    by_cases hlt : i < la
    · have hp : x / ra ^ i ≤ 4096 := Nat.le_trans (Nat.div_le_self _ _) HX4.out
      have hpI : ((x / ra ^ i : Nat) : Int) ≤ 4096 := by omega
      have HD : Hid (((x / ra ^ i : Nat) : Int) / (ra : Int) = ((x / ra ^ (i + 1) : Nat) : Int)) := by show _ = _; rw [← div_step]; simp
      have HM : Hid (((x / ra ^ i : Nat) : Int) % (ra : Int) = ((x / ra ^ i % ra : Nat) : Int)) := by show _ = _; simp
      have hxd : x / ra ^ i % ra < ra := Nat.mod_lt _ (by omega)
      have HXD := Lib.hid hxd
      obtain ⟨xi, hxi⟩ : ∃ z, z = x / ra ^ i := ⟨_, rfl⟩
      obtain ⟨xn, hxn⟩ : ∃ z, z = x / ra ^ (i + 1) := ⟨_, rfl⟩
      obtain ⟨xd, hxd2⟩ : ∃ z, z = x / ra ^ i % ra := ⟨_, rfl⟩
      rw [← hxi] at hp hpI
      rw [← hxi]
      rw [← hxd2] at hxd
      have HD' : Hid ((xi : Int) / (ra : Int) = (xn : Int)) := by rw [hxi, hxn]; exact HD.out
      have HM' : Hid ((xi : Int) % (ra : Int) = (xd : Int)) := by rw [hxi, hxd2]; exact HM.out
      have HXN := Lib.hid hxn
      have HXD2 := Lib.hid hxd2
      have HXD3 := Lib.hid hxd
      have hxd0 : xd ≤ 4096 := by omega
      have hxn0 : xn ≤ 4096 := by rw [hxn]; exact Nat.le_trans (Nat.div_le_self _ _) HX4.out
      have HXN0 := Lib.hid hxn0
      have HWN : Hid (wrap64 (xn : Int) = (xn : Int)) := IntWalk.wrap64_in _ ⟨by omega, by omega⟩
      have HXD0 := Lib.hid hxd0
      clear HD HM hxd hxi hxn hxd2 HXD hxn0 hxd0
      go_wp2_with fail
      (try rw [HM'.out])
      (try rw [HD'.out])
      (try rw [HWN.out])
      clear hp hpI HD' HM'
      go_loopw [16, 17] (fun v u wr => ∃ (j : Nat), j ≤ lb ∧ u = .int .i64 j ∧ v = .int .i64 ((y / rb ^ j : Nat) : Int) ∧ Fr No W wr ∧ ∀ j', j' < j → relT (szs d.ml) (szs d.mr) ρ l i j' = true → relT (szs d.ml) (szs d.mr) ρ r xd (y / rb ^ j' % rb) = true) (fun _ u _ => lb - (intOf u).toNat)
      case atStart => exact ⟨0, Nat.zero_le _, rfl, by simp, HF.out, fun j' h => by omega⟩
      case round =>
        obtain ⟨j, hj, rfl, rfl, hfr, hall⟩ := hrel
        have HFI := Lib.hid hfr
        have HALI := Lib.hid hall
        clear hfr hall
        by_cases hlt2 : j < lb
        · have hp : y / rb ^ j ≤ 4096 := Nat.le_trans (Nat.div_le_self _ _) HY4.out
          have hpI : ((y / rb ^ j : Nat) : Int) ≤ 4096 := by omega
          have HD : Hid (((y / rb ^ j : Nat) : Int) / (rb : Int) = ((y / rb ^ (j + 1) : Nat) : Int)) := by show _ = _; rw [← div_step]; simp
          have HM : Hid (((y / rb ^ j : Nat) : Int) % (rb : Int) = ((y / rb ^ j % rb : Nat) : Int)) := by show _ = _; simp
          have hxd : y / rb ^ j % rb < rb := Nat.mod_lt _ (by omega)
          obtain ⟨yi, hxi⟩ : ∃ z, z = y / rb ^ j := ⟨_, rfl⟩
          obtain ⟨yn, hxn⟩ : ∃ z, z = y / rb ^ (j + 1) := ⟨_, rfl⟩
          obtain ⟨yd, hxd2⟩ : ∃ z, z = y / rb ^ j % rb := ⟨_, rfl⟩
          rw [← hxi] at hp hpI
          rw [← hxi]
          rw [← hxd2] at hxd
          have HD' : Hid ((yi : Int) / (rb : Int) = (yn : Int)) := by rw [hxi, hxn]; exact HD.out
          have HM' : Hid ((yi : Int) % (rb : Int) = (yd : Int)) := by rw [hxi, hxd2]; exact HM.out
          have HYN := Lib.hid hxn
          have hyn0 : yn ≤ 4096 := by rw [hxn]; exact Nat.le_trans (Nat.div_le_self _ _) HY4.out
          have HWN2 : Hid (wrap64 (yn : Int) = (yn : Int)) := IntWalk.wrap64_in _ ⟨by omega, by omega⟩
          clear hyn0
          have HYD2 := Lib.hid hxd2
          have HYD3 := Lib.hid hxd
          obtain ⟨⟨x0, x1, x2⟩, ⟨p0, p2, p3, p4⟩, q0, q2, q3, q4, q5, q6⟩ := HX.out wr HFI.out
          have HFID := Lib.hid HFI.out.drew
          clear HD HM hxd hxi hxn hxd2
          go_wp2_with fail
          (try rw [HM'.out])
          (try rw [HD'.out])
          (try rw [HWN2.out])
          clear hp hpI HD' HM'
          cases hl1 : relT (szs d.ml) (szs d.mr) ρ l i j with
          | false =>
            have RLA : Hid (Calls Tryz.prog 41 #[Ptr Q, .agg #[S l.atom, .slice A1 l.kids.len c1], .int .i64 i, .int .i64 j] wr fun e w2 => e = .returned (.bool false) ∧ Fr No wr w2) := by
              have := RL.out _ i j hlt hlt2 HFI.out
              rwa [hl1] at this
            have HALJ : Hid (∀ j', j' < j + 1 → relT (szs d.ml) (szs d.mr) ρ l i j' = true → relT (szs d.ml) (szs d.mr) ρ r xd (y / rb ^ j' % rb) = true) := by
              intro j' hj' h
              by_cases e : j' = j
              · rw [e, hl1] at h; cases h
              · exact HALI.out j' (by omega) h
            clear hl1
            refine RLA.out.mono ?_
            rintro e w8 ⟨rfl, hf8⟩
            have HF8 := Lib.hid (HFI.out.trans hf8)
            clear x0 x1 x2 p0 p2 p3 p4 q0 q2 q3 q4 q5 q6
            obtain ⟨⟨x0, x1, x2⟩, ⟨p0, p2, p3, p4⟩, q0, q2, q3, q4, q5, q6⟩ := HX.out w8 HF8.out
            clear hf8
            go_wp2_with fail
            go_roundw
            case rel => exact ⟨j + 1, by omega, by go_num, by rw [HYN.out], HF8.out, HALJ.out⟩
            case measure => simp [intOf]; omega
          | true =>
            have RLA : Hid (Calls Tryz.prog 41 #[Ptr Q, .agg #[S l.atom, .slice A1 l.kids.len c1], .int .i64 i, .int .i64 j] wr fun e w2 => e = .returned (.bool true) ∧ Fr No wr w2) := by
              have := RL.out _ i j hlt hlt2 HFI.out
              rwa [hl1] at this
            obtain ⟨br, hbr⟩ : ∃ z, z = relT (szs d.ml) (szs d.mr) ρ r xd yd := ⟨_, rfl⟩
            have RRA : Hid (∀ w', Fr No W w' → Calls Tryz.prog 41 #[Ptr Q, .agg #[S r.atom, .slice A2 r.kids.len c2], .int .i64 xd, .int .i64 yd] w' fun e w2 => e = .returned (.bool br) ∧ Fr No w' w2) := by
              intro w' hf
              have := RR.out w' xd yd HXD3.out HYD3.out hf
              rwa [← hbr] at this
            have HBR := Lib.hid hbr
            have HL1 := Lib.hid hl1
            clear hl1 hbr
            refine RLA.out.mono ?_
            rintro e w8 ⟨rfl, hf8⟩
            have HF8 := Lib.hid (HFI.out.trans hf8)
            clear x0 x1 x2 p0 p2 p3 p4 q0 q2 q3 q4 q5 q6
            obtain ⟨⟨x0, x1, x2⟩, ⟨p0, p2, p3, p4⟩, q0, q2, q3, q4, q5, q6⟩ := HX.out w8 HF8.out
            clear hf8
            go_wp2_with fail
            refine (RRA.out _ HF8.out).mono ?_
            rintro e w9 ⟨rfl, hf9⟩
            have HF9 := Lib.hid (HF8.out.trans hf9)
            clear x0 x1 x2 p0 p2 p3 p4 q0 q2 q3 q4 q5 q6
            obtain ⟨⟨x0, x1, x2⟩, ⟨p0, p2, p3, p4⟩, q0, q2, q3, q4, q5, q6⟩ := HX.out w9 HF9.out
            clear hf9
            cases br with
            | false =>
              have FIN : Hid (relT (szs d.ml) (szs d.mr) ρ (.n true l r) x y = false) := RELF.out i j hlt hlt2 HL1.out (by rw [← HXD2.out, ← HYD2.out, ← HBR.out])
              go_wp2_with fail
              go_ret
              exact ⟨by rw [FIN.out]; rfl, HF0.out.trans HF9.out⟩
            | true =>
              have HALJ : Hid (∀ j', j' < j + 1 → relT (szs d.ml) (szs d.mr) ρ l i j' = true → relT (szs d.ml) (szs d.mr) ρ r xd (y / rb ^ j' % rb) = true) := by
                intro j' hj' h
                by_cases e : j' = j
                · rw [e, ← HYD2.out, ← HBR.out]
                · exact HALI.out j' (by omega) h
              go_wp2_with fail
              go_roundw
              case rel => exact ⟨j + 1, by omega, by go_num, by rw [HYN.out], HF9.out, HALJ.out⟩
              case measure => simp [intOf]; omega
        · have hjl : j = lb := by omega
          have HALN : Hid (∀ i', i' < i + 1 → ∀ j, j < lb → relT (szs d.ml) (szs d.mr) ρ l i' j = true → relT (szs d.ml) (szs d.mr) ρ r (x / ra ^ i' % ra) (y / rb ^ j % rb) = true) := by
            intro i' hi' j' hj' h
            by_cases e : i' = i
            · subst e
              rw [← HXD2.out]
              exact HALI.out j' (by omega) h
            · exact HALL.out i' (by omega) j' hj' h
          generalize y / rb ^ j = yi at *
          go_wp2_with fail
          go_roundw
          case rel => exact ⟨i + 1, by omega, by go_num, by rw [HXN.out], HFI.out, HALN.out⟩
          case measure => simp [intOf]; omega
    · have hil : i = la := by omega
      have FIN : Hid (relT (szs d.ml) (szs d.mr) ρ (.n true l r) x y = true) := RELT.out (fun i' h j hj => HALL.out i' (by omega) j hj)
      have HFW := Lib.hid (HF0.out.trans HF.out)
      generalize x / ra ^ i = xi at *
      go_wp2_with fail
      go_ret
      exact ⟨by rw [FIN.out]; rfl, HFW.out⟩
theorem re_any (d : SpD) (ρ : Nat → Nat → Nat → Bool) (hρ : RhoOk d ρ) (t : Ty) : t.lets → ReSaid d ρ t := by
  induction t with
  | v i => exact fun h => re_v d ρ hρ i h
  | o => exact fun _ => re_o d ρ
  | n f l r hl hr =>
    intro h
    cases f with
    | false => exact re_pair d ρ l r h.1 h.2 (hl h.1) (hr h.2)
    | true => exact re_fun d ρ l r h.1 h.2 (hl h.1) (hr h.2)
end Go.Proofs.YtloecimlimoanaaGreatDoor
