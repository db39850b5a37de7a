/- Models: what two lists say; how the program and the model read them. · The law ModelValid. · The model's reading of models; the law ModelValid. -/
import Derived.Test.YtloecimlimoanaaGreatDoorOpn
import Derived.Test.YtloecimlimoanaaGreatDoorRlt
import Derived.Test.YtloecimlimoanaaGreatDoorLaw2
import Derived.Test.YtloecimlimoanaaGreatDoorIn6
/- Models: what two lists say; how the program and the model read them. · The law ModelValid. -/
/- What two lists say. -/
namespace Go.Proofs.YtloecimlimoanaaGreatDoor
/-- what sizes a list of variables gives -/
def szs : List (Nat × Nat) → Nat → Option Nat
  | [], _ => none
  | (k, c) :: r, i => if k = i then some c else szs r i

theorem szs_none {ms : List (Nat × Nat)} {n : Nat} : szs ms n = none ↔ ∀ p ∈ ms, p.1 ≠ n := by
  induction ms with
  | nil => simp [szs]
  | cons p r ih =>
    obtain ⟨k, c⟩ := p
    by_cases h : k = n
    · simp [szs, h]
    · simp [szs, h, ih]

theorem szs_mem {ms : List (Nat × Nat)} {n c : Nat} (h : szs ms n = some c) : (n, c) ∈ ms := by
  induction ms with
  | nil => cases h
  | cons p r ih =>
    obtain ⟨k, d⟩ := p
    by_cases hk : k = n
    · simp [szs, hk] at h; simp [hk, h]
    · simp [szs, hk] at h; simp [ih h]

theorem szs_snoc {ms : List (Nat × Nat)} {k c : Nat} (h : szs ms k = none) : szs (ms ++ [(k, c)]) = fun i => if i = k then some c else szs ms i := by
  induction ms with
  | nil => funext i; simp [szs, eq_comm]
  | cons p r ih =>
    obtain ⟨k', d⟩ := p
    have hk : k' ≠ k := fun e => by simp [szs, e] at h
    have hr : szs r k = none := by simpa [szs, hk] using h
    funext i
    simp only [List.cons_append, szs, ih hr]
    by_cases hi : i = k
    · subst hi; simp [hk]
    · simp [hi]

structure ModelIs (ns : List (List UInt8)) (zs : List Int) (ms : List (Nat × Nat)) : Prop where
  names : ns = ms.map fun p => [Ty.letter p.1]
  sizes : zs = ms.map fun p => (p.2 : Int)
  ok : ∀ p ∈ ms, p.1 < 25 ∧ 1 ≤ p.2 ∧ p.2 ≤ 4
  nodup : (ms.map Prod.fst).Nodup
  few : ms.length ≤ 26

theorem ModelIs.nil : ModelIs [] [] [] := ⟨rfl, rfl, fun _ h => (by cases h), List.nodup_nil, by simp⟩

theorem ModelIs.sz {ns : List (List UInt8)} {zs : List Int} {ms : List (Nat × Nat)} (h : ModelIs ns zs ms) : Sizes (szs ms) := fun _ _ hc => (h.ok _ (szs_mem hc)).2

theorem ModelIs.more {ns : List (List UInt8)} {zs : List Int} {ms : List (Nat × Nat)} {j n c : Nat} (h : ModelIs (ns.take j) (zs.take j) ms) (hn : ns[j]? = some [Ty.letter n]) (hz : zs[j]? = some (c : Int)) (h25 : n < 25)
    (h1 : 1 ≤ c) (h4 : c ≤ 4) (hno : szs ms n = none) (hl : ns.length ≤ 26) : ModelIs (ns.take (j + 1)) (zs.take (j + 1)) (ms ++ [(n, c)]) := by
  have hlen := congrArg List.length h.names
  simp at hlen
  have hj := (List.getElem?_eq_some_iff.1 hn).1
  refine ⟨?_, ?_, ?_, ?_, ?_⟩
  · rw [List.take_add_one, hn, h.names]; simp
  · rw [List.take_add_one, hz, h.sizes]; simp
  · intro p hp
    rcases List.mem_append.1 hp with hp | hp
    · exact h.ok p hp
    · simp at hp; subst hp; exact ⟨h25, h1, h4⟩
  · rw [List.map_append, List.nodup_append]
    refine ⟨h.nodup, by simp, fun a ha b hb => ?_⟩
    simp at hb
    subst hb
    obtain ⟨p, hp, rfl⟩ := List.mem_map.1 ha
    exact szs_none.1 hno p hp
  · simp; omega

theorem ModelIs.unique {ns : List (List UInt8)} {zs : List Int} {ms ms' : List (Nat × Nat)} (h : ModelIs ns zs ms) (h' : ModelIs ns zs ms') : ms = ms' := by
  have e1 := h.names.symm.trans h'.names
  have e2 := h.sizes.symm.trans h'.sizes
  apply List.ext_getElem?
  intro i
  have g1 := congrArg (·[i]?) e1
  have g2 := congrArg (·[i]?) e2
  simp only [List.getElem?_map] at g1 g2
  rcases a : ms[i]? with _ | p <;> rcases b : ms'[i]? with _ | q
  · rfl
  · simp [a, b] at g1
  · simp [a, b] at g1
  · simp only [a, b, Option.map_some, Option.some.injEq, List.cons.injEq, and_true] at g1 g2
    have k1 := Ty.letter_inj (h.ok p (List.mem_of_getElem? a)).1 (h'.ok q (List.mem_of_getElem? b)).1 g1
    have k2 : p.2 = q.2 := by omega
    rw [show p = q from Prod.ext k1 k2]

theorem ModelIs.take {ns : List (List UInt8)} {zs : List Int} {ms : List (Nat × Nat)} (h : ModelIs ns zs ms) (j : Nat) : ModelIs (ns.take j) (zs.take j) (ms.take j) := by
  refine ⟨by rw [h.names, List.map_take], by rw [h.sizes, List.map_take], fun p hp => h.ok p (List.mem_of_mem_take hp), ?_, by have := h.few; simp; omega⟩
  rw [List.map_take]
  exact h.nodup.sublist (List.take_sublist _ _)

theorem ModelIs.at_ {ns : List (List UInt8)} {zs : List Int} {ms ms' : List (Nat × Nat)} {j : Nat} (h : ModelIs ns zs ms') (hj : j < ns.length) (h' : ModelIs (ns.take j) (zs.take j) ms) :
    ∃ n c : Nat, n < 25 ∧ ns[j]? = some [Ty.letter n] ∧ zs[j]? = some (c : Int) ∧ 1 ≤ c ∧ c ≤ 4 ∧ szs ms n = none := by
  have e := h'.unique (h.take j)
  have hl : j < ms'.length := by have := congrArg List.length h.names; simp at this; omega
  obtain ⟨p, hp⟩ : ∃ p, ms'[j]? = some p := ⟨_, List.getElem?_eq_getElem hl⟩
  have hok := h.ok p (List.mem_of_getElem? hp)
  refine ⟨p.1, p.2, hok.1, by rw [h.names, List.getElem?_map, hp]; rfl, by rw [h.sizes, List.getElem?_map, hp]; rfl, hok.2.1, hok.2.2, ?_⟩
  rw [e, szs_none]
  intro q hq e1
  obtain ⟨i, hi⟩ := List.getElem?_of_mem hq
  rw [List.getElem?_take] at hi
  split at hi
  · have g1 : (ms'.map Prod.fst)[i]? = some q.1 := by rw [List.getElem?_map, hi]; rfl
    have g2 : (ms'.map Prod.fst)[j]? = some p.1 := by rw [List.getElem?_map, hp]; rfl
    have := (List.getElem?_inj (List.getElem?_eq_some_iff.1 g1).1 h.nodup).1 (g1.trans ((congrArg some e1).trans g2.symm))
    omega
  · cases hi

theorem ModelIs.len {ns : List (List UInt8)} {zs : List Int} {ms : List (Nat × Nat)} (h : ModelIs ns zs ms) : ns.length = zs.length ∧ ns.length ≤ 26 := by
  rw [h.names, h.sizes]
  simp [h.few]

/-- as the model asks -/
def NamesOk (ns : List (List UInt8)) (k : Nat) : Prop := ∀ i x, i < k → ns[i]? = some x → (∃ n, n < 25 ∧ x = [Ty.letter n]) ∧ x ∉ ns.take i
def SizesOk (zs : List Int) (k : Nat) : Prop := ∀ i z, i < k → zs[i]? = some z → 1 ≤ z ∧ z ≤ 4

theorem model_iff (ns : List (List UInt8)) (zs : List Int) : (∃ ms, ModelIs ns zs ms) ↔ NamesOk ns ns.length ∧ SizesOk zs zs.length ∧ ns.length = zs.length ∧ ns.length ≤ 26 := by
  constructor
  · rintro ⟨ms, h⟩
    refine ⟨fun i x hi hx => ?_, fun i z hi hz => ?_, h.len⟩
    · obtain ⟨n, c, h25, hn, hz, h1, h4, hno⟩ := h.at_ hi (h.take i)
      rw [hx] at hn
      injection hn with hn
      refine ⟨⟨n, h25, hn⟩, fun hm => ?_⟩
      rw [(h.take i).names, hn] at hm
      obtain ⟨q, hq, e⟩ := List.mem_map.1 hm
      simp at e
      exact szs_none.1 hno q hq (Ty.letter_inj ((h.take i).ok q hq).1 h25 e)
    · obtain ⟨n, c, h25, hn, hz', h1, h4, hno⟩ := h.at_ (by rw [h.len.1]; exact hi) (h.take i)
      rw [hz] at hz'
      injection hz' with e
      omega
  · rintro ⟨h1, h2, h3, h4⟩
    suffices H : ∀ j, j ≤ ns.length → ∃ ms, ModelIs (ns.take j) (zs.take j) ms by
      obtain ⟨ms, h⟩ := H ns.length (Nat.le_refl _)
      rw [List.take_length, h3, List.take_length] at h
      exact ⟨ms, h⟩
    intro j
    induction j with
    | zero => intro _; exact ⟨[], by simpa using ModelIs.nil⟩
    | succ j ih =>
      intro hj
      obtain ⟨ms, h⟩ := ih (by omega)
      obtain ⟨x, hx⟩ : ∃ x, ns[j]? = some x := ⟨_, List.getElem?_eq_getElem (by omega)⟩
      obtain ⟨z, hz⟩ : ∃ z, zs[j]? = some z := ⟨_, List.getElem?_eq_getElem (by omega)⟩
      obtain ⟨⟨n, h25, rfl⟩, hno⟩ := h1 j x (by omega) hx
      have hz14 := h2 j z (by omega) hz
      obtain ⟨c, rfl⟩ : ∃ c : Nat, z = (c : Int) := ⟨z.toNat, by omega⟩
      refine ⟨ms ++ [(n, c)], h.more hx hz h25 (by omega) (by omega) ?_ h4⟩
      rw [szs_none]
      intro p hp e
      refine hno ?_
      rw [h.names]
      exact List.mem_map.2 ⟨p, hp, by rw [e]⟩

end Go.Proofs.YtloecimlimoanaaGreatDoor
/- How the program reads them. -/
namespace Go.Proofs.YtloecimlimoanaaGreatDoor
open Go.RowKit Go.ChangeMaps

theorem zero_int (w : World) : (zeroValue 3).run Tryz.prog w = .ok (.int .i64 0) w := by kernel_rfl

/-- the map at mb holds the sizes of variables by their numbers -/
def SzAt (w : World) (mb : Nat) (μ : Nat → Option Nat) : Prop := ∃ k f, MapAt w encI mb k f ∧ ∀ n : Nat, f n = (μ n).map fun (c : Nat) => Value.int .i64 (c : Int)

theorem SzAt.fr {w w' : World} {mb : Nat} {μ : Nat → Option Nat} {T : Nat → Prop} (h : SzAt w mb μ) (hf : Fr T w w') (hT : ¬ T mb) : SzAt w' mb μ := by
  obtain ⟨k, f, h1, h2⟩ := h
  exact ⟨k, f, h1.keep (hf.block mb h1.lt hT), h2⟩

theorem SzAt.look {w : World} {mb : Nat} {μ : Nat → Option Nat} (h : SzAt w mb μ) (n : Nat) :
    (Instr.lookup 89 (.map (some mb)) (.int .i64 n) false).run Tryz.prog w = .ok (.int .i64 ((μ n).getD 0 : Nat)) w := by
  obtain ⟨k, f, h1, h2⟩ := h
  have := h1.lookup (int_kind Tryz.underlying3) Tryz.underlying89 (zero_int w) (n : Int)
  rw [h2] at this
  rw [this]
  cases μ n <;> rfl

theorem SzAt.store {w : World} {mb : Nat} {μ : Nat → Option Nat} (h : SzAt w mb μ) (n c : Nat) :
    ∃ w', (Instr.mapUpdate 89 (.map (some mb)) (.int .i64 n) (.int .i64 c)).run Tryz.prog w = .ok () w' ∧ SzAt w' mb (fun i => if i = n then some c else μ i) ∧ Fr (One mb) w w' := by
  obtain ⟨k, f, h1, h2⟩ := h
  obtain ⟨w', r, r1, r2, r3⟩ := h1.update (int_kind Tryz.underlying3) Tryz.underlying89 (n : Int) (.int .i64 c)
  refine ⟨w', r, ⟨_, _, r1, fun i => ?_⟩, (Fr.refl (One mb) w).turned r2 (.inl rfl)⟩
  by_cases hi : i = n
  · subst hi; rw [updK_same]; simp
  · rw [updK_other _ _ _ (by omega), h2]; simp [hi]

theorem Pool.ne_szs {w : World} {q m : Nat} {ps : List Nat} {D : List Ty} (h : Pool w q m ps D) {mb : Nat} {μ : Nat → Option Nat} (hb : SzAt w mb μ) : q ≠ mb ∧ mb ∉ ps := by
  obtain ⟨k, f, ⟨es, clk, hm, _⟩, _⟩ := hb
  refine ⟨h.head.ne_map hm, fun hp => ?_⟩
  obtain ⟨i, hi⟩ := List.mem_iff_getElem?.1 hp
  have hl : i < D.length := by rw [← h.len]; exact (List.getElem?_eq_some_iff.1 hi).1
  obtain ⟨a, b, hbk, _⟩ := h.node i _ mb (List.getElem?_eq_getElem hl) hi
  exact hbk.ne_map hm rfl

structure RmL (w : World) (ns : List (List UInt8)) (zs : List Int) (j : Nat) (ms : List (Nat × Nat)) (ps : List Nat) (D : List Ty) (wr : World) : Prop where
  pool : Pool wr (w.heap.size + 1) w.heap.size ps D
  sz : SzAt wr (w.heap.size + 2) (szs ms)
  is_ : ModelIs (ns.take j) (zs.take j) ms
  fr : Fr No w wr

theorem RmL.drew {w : World} {ns : List (List UInt8)} {zs : List Int} {j : Nat} {ms : List (Nat × Nat)} {ps : List Nat} {D : List Ty} {wr : World} (h : RmL w ns zs j ms ps D wr) : RmL w ns zs j ms ps D wr.drew :=
  ⟨h.pool.drew, h.sz.fr ((Fr.refl No wr).drew) (fun h => h), h.is_, h.fr.drew⟩

/-- behind the reading of a name -/
theorem RmL.read {w : World} {ns : List (List UInt8)} {zs : List Int} {j : Nat} {ms : List (Nat × Nat)} {ps ps1 : List Nat} {D D1 : List Ty} {wr w1 : World} (h : RmL w ns zs j ms ps D wr) (hp : Pool w1 (w.heap.size + 1) w.heap.size ps1 D1) (hf : Fr (One w.heap.size) wr w1) :
    RmL w ns zs j ms ps1 D1 w1 :=
  ⟨hp, h.sz.fr hf (fun e => by unfold One at e; omega), h.is_, h.fr.then_ hf (fun i hi e => by unfold One at e; omega)⟩

/-- behind a store -/
theorem RmL.more {w : World} {ns : List (List UInt8)} {zs : List Int} {j n c : Nat} {ms : List (Nat × Nat)} {ps : List Nat} {D : List Ty} {wr : World} (h : RmL w ns zs j ms ps D wr) (hn : ns[j]? = some [Ty.letter n]) (hz : zs[j]? = some (c : Int)) (h25 : n < 25)
    (h1 : 1 ≤ c) (h4 : c ≤ 4) (hno : szs ms n = none) (hl : ns.length ≤ 26) :
    ∃ w', (Instr.mapUpdate 89 (.map (some (w.heap.size + 2))) (.int .i64 n) (.int .i64 c)).run Tryz.prog wr = .ok () w' ∧ RmL w ns zs (j + 1) (ms ++ [(n, c)]) ps D w' := by
  obtain ⟨w', r, hs, hf⟩ := h.sz.store n c
  have hne := h.pool.ne_szs h.sz
  refine ⟨w', r, h.pool.fr hf hne.1 (fun e => by unfold One at e; omega) (fun p hp e => hne.2 (by unfold One at e; exact e ▸ hp)), ?_, h.is_.more hn hz h25 h1 h4 hno hl, h.fr.then_ hf (fun i hi e => by unfold One at e; omega)⟩
  rw [szs_snoc hno]
  exact hs

def RdM (ns : List (List UInt8)) (zs : List Int) (w : World) (e : Ending) (w' : World) : Prop :=
  Fr No w w' ∧ ((∃ ms mb, ModelIs ns zs ms ∧ e = .returned (.tuple #[.map (some mb), .bool true]) ∧ SzAt w' mb (szs ms) ∧ w.heap.size ≤ mb) ∨ ((∀ ms, ¬ ModelIs ns zs ms) ∧ e = .returned (.tuple #[.map none, .bool false])))

set_option maxRecDepth 100000 in
set_option maxHeartbeats 1000000 in
theorem readModel_any (w : World) (A A' : Option Addr) (ns : List (List UInt8)) (zs : List Int) (c c' : Nat) (hN : SSl w A ns) (hZ : ISl w A' zs) (hl : ns.length ≤ 2000000) (hl' : zs.length ≤ 2000000) (hs : ∀ x ∈ ns, x.length ≤ maxLen) :
    Calls Tryz.prog 42 #[.slice A ns.length c, .slice A' zs.length c'] w fun e w' => RdM ns zs w e w' := by
  have b1 : (ns.length : Int) ≤ 2000000 := by omega
  have b2 : (zs.length : Int) ≤ 2000000 := by omega
  by_cases hne : ns.length = zs.length
  · by_cases h26 : ns.length ≤ 26
    · have h26' : ¬ 26 < (ns.length : Int) := by omega
      have hmm := @run_makeMap Tryz.prog
      have HNE := Lib.hid hne
      rw [← hne]
      have HN := Lib.hid hN
      have HZ := Lib.hid hZ
      have HS := Lib.hid hs
      clear hne b2 hN hZ hs
      go_enter Tryz.func42, Tryz.ntmps42
      go_wp2_with fail
      refine (newPool_any _).mono ?_
      rintro e w1 ⟨rfl, rfl⟩
      have hP := pool_start w
      have hf0 : Fr No w ((w.alloc (.map #[] 0)).alloc (.cells #[.map (some w.heap.size)] 126)) := ((Fr.refl _ _).alloc _).alloc _
      have hz0 : ((w.alloc (.map #[] 0)).alloc (.cells #[.map (some w.heap.size)] 126)).heap.size = w.heap.size + 2 := by simp
      generalize (w.alloc (.map #[] 0)).alloc (.cells #[.map (some w.heap.size)] 126) = w1 at hP hf0 hz0 ⊢
      have HL : Hid (RmL w ns zs 0 [] [] [] (w1.alloc (.map #[] 0))) := by
        refine ⟨hP.fr ((Fr.refl No w1).alloc _) (fun h => h) (fun h => h) (fun _ _ h => h), ?_, by simpa using ModelIs.nil, hf0.alloc _⟩
        rw [← hz0]
        exact ⟨0, _, MapAt.made w1 encI, fun _ => rfl⟩
      have HZ0 := Lib.hid hz0
      clear hP hf0 hz0
      go_wp2_with fail
      have hmb : Hid (w1.heap.size = w.heap.size + 2) := HZ0.out
      rw [hmb.out]
      generalize w1.alloc (.map #[] 0) = wa at HL ⊢
      clear hmm hmb HZ0
      go_loopw [25] (fun u wr => ∃ (j : Nat), j ≤ ns.length ∧ u = .int .i64 j ∧ ∃ ms ps D, RmL w ns zs j ms ps D wr) (fun u _ => ns.length - (intOf u).toNat)
      case atStart => exact ⟨0, Nat.zero_le _, rfl, _, _, _, HL.out⟩
      case round =>
        obtain ⟨j, hj, rfl, ms, ps, D, hL⟩ := hrel
        have HLJ := Lib.hid hL
        clear hL HL
        by_cases hlt : j < ns.length
        · obtain ⟨x, hxj⟩ : ∃ x, ns[j]? = some x := ⟨_, List.getElem?_eq_getElem hlt⟩
          obtain ⟨z, hzj⟩ : ∃ z, zs[j]? = some z := ⟨_, List.getElem?_eq_getElem (by rw [← HNE.out]; exact hlt)⟩
          obtain ⟨g, o, rfl, hc0⟩ := HN.out j x hxj
          obtain ⟨g', o', rfl, hc1⟩ := HZ.out j z hzj
          have hc := (HLJ.out.fr.cell (p := ⟨g, o + j, none⟩) (block_lt hc0) (fun h => h)).trans hc0
          have HCZ : Hid (∀ w', Fr No w w' → w'.cell? ⟨g', o' + j, none⟩ = some (.int .i64 z)) := fun w' hf => (hf.cell (p := ⟨g', o' + j, none⟩) (block_lt hc1) (fun h => h)).trans hc1
          have HXJ := Lib.hid hxj
          have HZJ := Lib.hid hzj
          have hxl := HS.out x (List.mem_of_getElem? hxj)
          have HXL := Lib.hid hxl
          clear hc0 hc1 hxj hzj hxl
          go_wp2_with fail
          refine (readVar_any wr _ _ ps D x HLJ.out.pool HXL.out).mono ?_
          rintro e w2 ⟨ps2, D2, hP2, _, hf2, hor⟩
          have hL2 := HLJ.out.read hP2 hf2
          have HL2 := Lib.hid hL2
          have hcz := HCZ.out w2 hL2.fr
          rcases hor with ⟨i, p, hi, rfl, hh, he⟩ | ⟨hno, he⟩
          · obtain rfl := he
            obtain ⟨ka, kb, kc, hb, _⟩ := hh.blk hP2
            have cp : w2.cell? ⟨p, 1, none⟩ = some (.int .i64 i) := (hb.cell 1).trans rfl
            have HLK : Hid ((Instr.lookup 89 (.map (some (w.heap.size + 2))) (.int .i64 i) false).run Tryz.prog w2 = .ok (.int .i64 (((szs ms i).getD 0 : Nat) : Int)) w2) := hL2.sz.look i
            have HH := Lib.hid hh
            clear hL2 hP2 hf2 hb hh
            rcases hsz : szs ms i with _ | d
            · have hlk := HLK.out
              rw [hsz] at hlk
              simp only [Option.getD_none] at hlk
              have HSZ := Lib.hid hsz
              clear hsz HLK
              by_cases hz1 : z < 1
              · have HF : Hid (∀ ms', ¬ ModelIs ns zs ms') := by
                  intro ms' h
                  obtain ⟨n, c, h25, hn, hz, h1, h4, hno⟩ := h.at_ hlt HLJ.out.is_
                  rw [HZJ.out] at hz
                  injection hz with hz
                  omega
                go_wp2_with fail
                go_ret2
                exact ⟨HL2.out.fr, .inr ⟨HF.out, rfl⟩⟩
              · by_cases hz4 : 4 < z
                · have HF : Hid (∀ ms', ¬ ModelIs ns zs ms') := by
                    intro ms' h
                    obtain ⟨n, c, h25, hn, hz, h1, h4, hno⟩ := h.at_ hlt HLJ.out.is_
                    rw [HZJ.out] at hz
                    injection hz with hz
                    omega
                  go_wp2_with fail
                  go_ret2
                  exact ⟨HL2.out.fr, .inr ⟨HF.out, rfl⟩⟩
                · obtain ⟨cz, rfl⟩ : ∃ cz : Nat, z = (cz : Int) := ⟨z.toNat, by omega⟩
                  obtain ⟨w3, hrun, hL3⟩ := HL2.out.drew.more HXJ.out HZJ.out hi (by omega) (by omega) HSZ.out h26
                  have HL3 := Lib.hid hL3
                  clear hL3
                  go_wp2_with fail
                  refine wp_region_still_tail 9 (by kernel_rfl) (by kernel_rfl) ?_
                  change wpStill _ _ (World.drew _) (fun a' => wpList _ _ _ _ a' (World.drew _)) _ _
                  simp only [List.take_succ_cons, List.take_zero, List.drop_succ_cons, List.drop_zero]
                  repeat still_step
                  refine wpStill_nil ?_
                  go_wp2_with fail
                  go_roundw
                  case rel => exact ⟨j + 1, by omega, by go_num, _, _, _, HL3.out⟩
                  case measure => simp [intOf]; omega
            · have hlk := HLK.out
              rw [hsz] at hlk
              simp only [Option.getD_some] at hlk
              have hd := HLJ.out.is_.sz i d hsz
              have hd1 : (0 : Int) < (d : Int) := by omega
              have HF : Hid (∀ ms', ¬ ModelIs ns zs ms') := by
                intro ms' h
                obtain ⟨n, c, h25, hn, _, _, _, hno⟩ := h.at_ hlt HLJ.out.is_
                rw [HXJ.out] at hn
                injection hn with hn
                injection hn with hn
                have := Ty.letter_inj hi h25 hn
                subst this
                rw [hsz] at hno
                cases hno
              clear hsz HLK
              go_wp2_with fail
              go_ret2
              exact ⟨HL2.out.fr, .inr ⟨HF.out, rfl⟩⟩
          · obtain rfl := he
            have HF : Hid (∀ ms', ¬ ModelIs ns zs ms') := by
              intro ms' h
              obtain ⟨n, c, h25, hn, _⟩ := h.at_ hlt HLJ.out.is_
              rw [HXJ.out] at hn
              injection hn with hn
              exact hno n h25 hn
            clear hno hL2 hP2 hf2 hcz
            go_wp2_with fail
            go_ret2
            exact ⟨HL2.out.fr, .inr ⟨HF.out, rfl⟩⟩
        · have hjl : j = ns.length := by omega
          have HF : Hid (ModelIs ns zs ms) := by
            have := HLJ.out.is_
            rw [hjl, List.take_length, HNE.out, List.take_length] at this
            exact this
          clear hjl
          go_wp2_with fail
          go_ret2
          exact ⟨HLJ.out.fr, .inl ⟨ms, _, HF.out, rfl, HLJ.out.sz, by omega⟩⟩
    · have h26' : 26 < (ns.length : Int) := by omega
      have HF : Hid (∀ ms, ¬ ModelIs ns zs ms) := fun ms h => h26 h.len.2
      rw [← hne]
      clear b2 hne h26 hN hZ hs
      go_enter Tryz.func42, Tryz.ntmps42
      go_wp2_with fail
      go_ret2
      exact ⟨Fr.refl _ _, .inr ⟨HF.out, rfl⟩⟩
  · have HF : Hid (∀ ms, ¬ ModelIs ns zs ms) := fun ms h => hne h.len.1
    have hd : ((ns.length : Int) == (zs.length : Int)) = false := beq_eq_false_iff_ne.2 (by omega)
    clear hN hZ hs
    go_enter Tryz.func42, Tryz.ntmps42
    go_wp2_with fail
    go_ret2
    exact ⟨Fr.refl _ _, .inr ⟨HF.out, rfl⟩⟩
end Go.Proofs.YtloecimlimoanaaGreatDoor

/- The model's reading of models; the law ModelValid. -/
namespace Go.Proofs.YtloecimlimoanaaGreatDoor
open Go.RowKit Go.ChangeMaps

theorem NamesOk.more {ns : List (List UInt8)} {j : Nat} {x : List UInt8} (h : NamesOk ns j) (hx : ns[j]? = some x) (h1 : ∃ n, n < 25 ∧ x = [Ty.letter n]) (h2 : x ∉ ns.take j) : NamesOk ns (j + 1) := by
  intro i y hi hy
  by_cases he : i = j
  · subst he
    rw [hx] at hy
    injection hy with hy
    subst hy
    exact ⟨h1, h2⟩
  · exact h i y (by omega) hy

theorem SizesOk.more {zs : List Int} {j : Nat} {z : Int} (h : SizesOk zs j) (hx : zs[j]? = some z) (h1 : 1 ≤ z ∧ z ≤ 4) : SizesOk zs (j + 1) := by
  intro i y hi hy
  by_cases he : i = j
  · subst he
    rw [hx] at hy
    injection hy with hy
    subst hy
    exact h1
  · exact h i y (by omega) hy

set_option maxRecDepth 100000 in
set_option maxHeartbeats 1000000 in
theorem specModel (w : World) (A A' : Option Addr) (ns : List (List UInt8)) (zs : List Int) (c c' : Nat) (hc : ns.length ≤ c) (hN : SSl w A ns) (hZ : ISl w A' zs) (hl : ns.length ≤ 1048576) (hl' : zs.length ≤ 1048576) (hs : ∀ x ∈ ns, x.length ≤ maxLen) :
    Calls Tryz.prog 92 #[.slice A ns.length c, .slice A' zs.length c'] w fun e w' => AnsB (∃ ms, ModelIs ns zs ms) w e w' := by
  have b1 : (ns.length : Int) ≤ 1048576 := by omega
  have b2 : (zs.length : Int) ≤ 1048576 := by omega
  have HN := Lib.hid hN
  have HZ := Lib.hid hZ
  have HS := Lib.hid hs
  clear hN hZ hs
  go_enter Tryz.func92, Tryz.ntmps92
  go_wp2_with fail
  go_loopw [5] (fun u wr => ∃ (j : Nat), j ≤ ns.length ∧ u = .int .i64 j ∧ Fr No w wr ∧ NamesOk ns j) (fun u _ => ns.length - (intOf u).toNat)
  case atStart => exact ⟨0, Nat.zero_le _, rfl, Fr.refl _ _, fun i x hi => by omega⟩
  case round =>
    obtain ⟨j, hj, rfl, hfr, hok⟩ := hrel
    have HOK := Lib.hid hok
    have HF := Lib.hid hfr
    clear hok hfr
    by_cases hlt : j < ns.length
    · obtain ⟨x, hxj⟩ : ∃ x, ns[j]? = some x := ⟨_, List.getElem?_eq_getElem hlt⟩
      obtain ⟨g, o, rfl, hc0⟩ := HN.out j x hxj
      have CELL : Hid (∀ w', Fr No w w' → w'.cell? ⟨g, o + j, none⟩ = some (S x)) := fun w' hf => (hf.cell (p := ⟨g, o + j, none⟩) (block_lt hc0) (fun h => h)).trans hc0
      have VAR : Hid (∀ w', Calls Tryz.prog 84 #[S x] w' fun e w2 => e = .returned (.bool (isVar x)) ∧ w' = w2) := fun w' => var_any2 x w' (HS.out x (List.mem_of_getElem? hxj))
      have HX := Lib.hid hxj
      have hcw := CELL.out wr HF.out
      have hlc : (j : Int) ≤ (c : Int) := by omega
      clear hc0 hxj
      by_cases hv : isVar x = true
      · have HAS : Hid (∀ w', Fr No w w' → Calls Tryz.prog 85 #[.slice (some ⟨g, o, none⟩) j c, S x] w' fun e w2 => ∃ b : Bool, e = .returned (.bool b) ∧ (b = true ↔ x ∈ ns.take j) ∧ w' = w2) := by
          intro w' hf
          have hss : SSl w' (some ⟨g, o, none⟩) (ns.take j) := by
            intro i y hy
            rw [List.getElem?_take] at hy
            split at hy
            · exact (HN.out.keep hf (fun _ h => h.elim)) i y hy
            · cases hy
          have := has_big w' (some ⟨g, o, none⟩) (ns.take j) c x hss (by rw [List.length_take]; omega)
          rw [List.length_take, Nat.min_eq_left hj] at this
          exact this
        have HV := Lib.hid hv
        have hfd : Fr No w wr.drew := HF.out.drew
        have hfw := HF.out
        clear hv
        go_wp2_with fail
        go_region_held3 (fun w' => w'.cell? ⟨g, o + j, none⟩ = some (S x)) (go_keep)
          (first | (go_at_call 84; ((with_reducible refine (VAR.out _).mono ?_); rintro e w2 ⟨rfl, rfl⟩; rw [HV.out]; have d0 := CELL.out _ hfd)) | (go_at_call 85; ((with_reducible refine (HAS.out _ hfd).mono ?_); rintro e w3 ⟨b, rfl, hb, rfl⟩; have HB := Lib.hid hb; clear hb)))
        cases b
        · have HN1 : Hid (NamesOk ns (j + 1)) := HOK.out.more HX.out ((var_iff x).1 HV.out) (fun h => by have := HB.out.2 h; cases this)
          go_wp2_with fail
          go_roundw
          case rel => exact ⟨j + 1, by omega, by go_num, hfd, HN1.out⟩
          case measure => simp [intOf]; omega
        · have HNO : Hid (¬ ∃ ms, ModelIs ns zs ms) := fun h => (((model_iff ns zs).1 h).1 j x hlt HX.out).2 (HB.out.1 rfl)
          go_wp2_with fail
          go_ret
          exact ⟨false, rfl, ⟨fun h => (by cases h), fun h => (HNO.out h).elim⟩, hfd⟩
      · have HNO : Hid (¬ ∃ ms, ModelIs ns zs ms) := fun h => hv ((var_iff x).2 (((model_iff ns zs).1 h).1 j x hlt HX.out).1)
        have HV : Hid (isVar x = false) := Bool.eq_false_iff.2 hv
        have hfd : Fr No w wr.drew := HF.out.drew
        clear hv
        go_wp2_with fail
        refine wp_region_held_drew (S := (fun w' => w'.cell? ⟨g, o + j, none⟩ = some (S x))) (by kernel_rfl) ?hS (fun hHeld => ?_)
        case hS => (first | exact hcw | (dsimp only; exact hcw))
        refine wpAnyH_take (i := 0) (v := ?v0) (by simp only [List.getElem?_toArray, List.getElem?_cons_zero]; rfl) (by kernel_rfl) (by kernel_rfl) (by kernel_rfl) (by exact fun _ _ _ h => h) (Or.inl ⟨by rfl, ?hy0⟩) (by assumption) ?rest0
        case hy0 => (intro w hSw; (try dsimp only at hSw); go_simp; try with_reducible rfl)
        try simp only [Act.put, List.setIfInBounds_toArray, List.set_cons_zero, List.set_cons_succ]
        refine wpAnyH_take (i := 1) (v := ?v1) (by simp only [List.getElem?_toArray, List.getElem?_cons_succ, List.getElem?_cons_zero]; rfl) (by kernel_rfl) (by kernel_rfl) (by kernel_rfl) (by exact fun _ _ _ h => h) (Or.inl ⟨by rfl, ?hy1⟩) (by assumption) ?rest1
        case hy1 => (intro w hSw; (try dsimp only at hSw); go_simp; try with_reducible rfl)
        try simp only [Act.put, List.setIfInBounds_toArray, List.set_cons_zero, List.set_cons_succ]
        refine wpAnyH_take (i := 2) (v := ?v2) (by simp only [List.getElem?_toArray, List.getElem?_cons_succ, List.getElem?_cons_zero]; rfl) (by kernel_rfl) (by kernel_rfl) (by kernel_rfl) (by exact fun _ _ _ h => h) (Or.inl ⟨by rfl, ?hy2⟩) (by assumption) ?rest2
        case hy2 => (intro w hSw; (try dsimp only at hSw); go_simp; try with_reducible rfl)
        try simp only [Act.put, List.setIfInBounds_toArray, List.set_cons_zero, List.set_cons_succ]
        refine wpAnyH_take (i := 3) (v := ?v3) (by simp only [List.getElem?_toArray, List.getElem?_cons_succ, List.getElem?_cons_zero]; rfl) (by kernel_rfl) (by kernel_rfl) (by kernel_rfl) (by exact fun _ _ _ h => h) (Or.inl ⟨by rfl, ?hy3⟩) (by assumption) ?rest3
        case hy3 => (intro w hSw; (try dsimp only at hSw); go_simp; try with_reducible rfl)
        try simp only [Act.put, List.setIfInBounds_toArray, List.set_cons_zero, List.set_cons_succ]
        refine wpAnyH_ready (rs := [4]) (by kernel_rfl) (by simp) ?_
        refine AllReadyH.cons rfl (fun K hK => ?_) AllReadyH.nil
        go_simp
        (with_reducible refine (VAR.out _).mono ?_); rintro e w2 ⟨rfl, rfl⟩; rw [HV.out]
        refine hK.out _ _ ?hS_1 (fun hHeld_1 => ?_)
        case hS_1 => exact hcw
        clear hK K hHeld
        try simp only [Act.put, List.setIfInBounds_toArray, List.set_cons_zero, List.set_cons_succ]
        refine wpAnyH_take (i := 5) (v := ?v5) (by simp only [List.getElem?_toArray, List.getElem?_cons_succ, List.getElem?_cons_zero]; rfl) (by kernel_rfl) (by kernel_rfl) (by kernel_rfl) (by exact fun _ _ _ h => h) (Or.inl ⟨by rfl, ?hy5⟩) (by assumption) ?rest5
        case hy5 => (intro w hSw; (try dsimp only at hSw); go_simp; try with_reducible rfl)
        try simp only [Act.put, List.setIfInBounds_toArray, List.set_cons_zero, List.set_cons_succ]
        refine wpAnyH_take (i := 6) (v := ?v6) (by simp only [List.getElem?_toArray, List.getElem?_cons_succ, List.getElem?_cons_zero]; rfl) (by kernel_rfl) (by kernel_rfl) (by kernel_rfl) (by exact fun _ _ _ h => h) (Or.inl ⟨by rfl, ?hy6⟩) (by assumption) ?rest6
        case hy6 => (intro w hSw; (try dsimp only at hSw); go_simp; try with_reducible rfl)
        try simp only [Act.put, List.setIfInBounds_toArray, List.set_cons_zero, List.set_cons_succ]
        refine wpAnyH_take (i := 7) (v := undef) (by simp only [List.getElem?_toArray, List.getElem?_cons_succ, List.getElem?_cons_zero]; rfl) (by kernel_rfl) (by kernel_rfl) (by kernel_rfl) (by exact fun _ _ _ h => h) (Or.inr ⟨by rfl, rfl⟩) (by assumption) ?_
        try simp only [Act.put, List.setIfInBounds_toArray, List.set_cons_zero, List.set_cons_succ]
        refine wpAnyH_take (i := 8) (v := undef) (by simp only [List.getElem?_toArray, List.getElem?_cons_succ, List.getElem?_cons_zero]; rfl) (by kernel_rfl) (by kernel_rfl) (by kernel_rfl) (by exact fun _ _ _ h => h) (Or.inr ⟨by rfl, rfl⟩) (by assumption) ?_
        try simp only [Act.put, List.setIfInBounds_toArray, List.set_cons_zero, List.set_cons_succ]
        refine wpAnyH_take (i := 9) (v := undef) (by simp only [List.getElem?_toArray, List.getElem?_cons_succ, List.getElem?_cons_zero]; rfl) (by kernel_rfl) (by kernel_rfl) (by kernel_rfl) (by exact fun _ _ _ h => h) (Or.inr ⟨by rfl, rfl⟩) (by assumption) ?_
        try simp only [Act.put, List.setIfInBounds_toArray, List.set_cons_zero, List.set_cons_succ]
        refine wpAnyH_take (i := 10) (v := undef) (by simp only [List.getElem?_toArray, List.getElem?_cons_succ, List.getElem?_cons_zero]; rfl) (by kernel_rfl) (by kernel_rfl) (by kernel_rfl) (by exact fun _ _ _ h => h) (Or.inr ⟨by rfl, rfl⟩) (by assumption) ?_
        try simp only [Act.put, List.setIfInBounds_toArray, List.set_cons_zero, List.set_cons_succ]
        refine wpAnyH_take (i := 11) (v := undef) (by simp only [List.getElem?_toArray, List.getElem?_cons_succ, List.getElem?_cons_zero]; rfl) (by kernel_rfl) (by kernel_rfl) (by kernel_rfl) (by exact fun _ _ _ h => h) (Or.inr ⟨by rfl, rfl⟩) (by assumption) ?_
        try simp only [Act.put, List.setIfInBounds_toArray, List.set_cons_zero, List.set_cons_succ]
        refine wpAnyH_take (i := 12) (v := undef) (by simp only [List.getElem?_toArray, List.getElem?_cons_succ, List.getElem?_cons_zero]; rfl) (by kernel_rfl) (by kernel_rfl) (by kernel_rfl) (by exact fun _ _ _ h => h) (Or.inr ⟨by rfl, rfl⟩) (by assumption) ?_
        try simp only [Act.put, List.setIfInBounds_toArray, List.set_cons_zero, List.set_cons_succ]
        refine wpAnyH_take (i := 13) (v := undef) (by simp only [List.getElem?_toArray, List.getElem?_cons_succ, List.getElem?_cons_zero]; rfl) (by kernel_rfl) (by kernel_rfl) (by kernel_rfl) (by exact fun _ _ _ h => h) (Or.inr ⟨by rfl, rfl⟩) (by assumption) ?_
        try simp only [Act.put, List.setIfInBounds_toArray, List.set_cons_zero, List.set_cons_succ]
        refine wpAnyH_take (i := 14) (v := undef) (by simp only [List.getElem?_toArray, List.getElem?_cons_succ, List.getElem?_cons_zero]; rfl) (by kernel_rfl) (by kernel_rfl) (by kernel_rfl) (by exact fun _ _ _ h => h) (Or.inr ⟨by rfl, rfl⟩) (by assumption) ?_
        try simp only [Act.put, List.setIfInBounds_toArray, List.set_cons_zero, List.set_cons_succ]
        refine wpAnyH_take (i := 15) (v := ?v15) (by simp only [List.getElem?_toArray, List.getElem?_cons_succ, List.getElem?_cons_zero]; rfl) (by kernel_rfl) (by kernel_rfl) (by kernel_rfl) (by exact fun _ _ _ h => h) (Or.inl ⟨by rfl, ?hy15⟩) (by assumption) ?rest15
        case hy15 => (intro w hSw; (try dsimp only at hSw); go_simp; try with_reducible rfl)
        try simp only [Act.put, List.setIfInBounds_toArray, List.set_cons_zero, List.set_cons_succ]
        refine wpAnyH_done (by kernel_rfl) ?_ _
        go_wp2_with fail
        go_ret
        exact ⟨false, rfl, ⟨fun h => (by cases h), fun h => (HNO.out h).elim⟩, hfd⟩
    · have hjl : j = ns.length := by omega
      subst hjl
      go_wp2_with fail
      obtain ⟨wo, rfl⟩ : ∃ wo : World, wo = wr := ⟨_, rfl⟩
      go_loopw [6] (fun u wr => ∃ (j : Nat), j ≤ zs.length ∧ u = .int .i64 j ∧ Fr No w wr ∧ SizesOk zs j) (fun u _ => zs.length - (intOf u).toNat)
      case atStart => exact ⟨0, Nat.zero_le _, rfl, HF.out, fun i x hi => by omega⟩
      case round =>
        obtain ⟨j, hj, rfl, hfr, hok⟩ := hrel
        have HOKZ := Lib.hid hok
        have HFZ := Lib.hid hfr
        clear hok hfr
        by_cases hlt : j < zs.length
        · obtain ⟨z, hzj⟩ : ∃ z, zs[j]? = some z := ⟨_, List.getElem?_eq_getElem hlt⟩
          obtain ⟨g, o, rfl, hc0⟩ := HZ.out j z hzj
          have hcw := (HFZ.out.cell (p := ⟨g, o + j, none⟩) (block_lt hc0) (fun h => h)).trans hc0
          have HX := Lib.hid hzj
          clear hzj hc0
          go_wp2_with fail
          refine (in_any _ z 1 4).mono ?_
          rintro e w2 ⟨rfl, rfl⟩
          by_cases hin : 1 ≤ z ∧ z ≤ 4
          · rw [decide_eq_true hin]
            have HN1 : Hid (SizesOk zs (j + 1)) := HOKZ.out.more HX.out hin
            clear hin
            go_wp2_with fail
            go_roundw
            case rel => exact ⟨j + 1, by omega, by go_num, HFZ.out, HN1.out⟩
            case measure => simp [intOf]; omega
          · rw [decide_eq_false hin]
            have HNO : Hid (¬ ∃ ms, ModelIs ns zs ms) := fun h => hin (((model_iff ns zs).1 h).2.1 j z hlt HX.out)
            clear hin
            go_wp2_with fail
            go_ret
            exact ⟨false, rfl, ⟨fun h => (by cases h), fun h => (HNO.out h).elim⟩, HFZ.out⟩
        · have hjl : j = zs.length := by omega
          subst hjl
          by_cases hne : ns.length = zs.length
          · by_cases h26 : ns.length ≤ 26
            · have HY : Hid (∃ ms, ModelIs ns zs ms) := (model_iff ns zs).2 ⟨HOK.out, HOKZ.out, hne, h26⟩
              have h26' : ¬ 26 < (ns.length : Int) := by omega
              have h26'' : (ns.length : Int) ≤ 26 := by omega
              rw [← hne]
              clear hne
              go_wp2_with fail
              go_ret
              first | exact ⟨true, rfl, ⟨fun _ => HY.out, fun _ => rfl⟩, HFZ.out⟩ | exact ⟨_, rfl, ⟨fun _ => HY.out, fun _ => by simp; omega⟩, HFZ.out⟩
            · have HNO : Hid (¬ ∃ ms, ModelIs ns zs ms) := fun h => h26 ((model_iff ns zs).1 h).2.2.2
              have h26' : 26 < (ns.length : Int) := by omega
              rw [← hne]
              clear hne
              go_wp2_with fail
              go_ret
              first | exact ⟨false, rfl, ⟨fun h => (by cases h), fun h => (HNO.out h).elim⟩, HFZ.out⟩ | exact ⟨_, rfl, ⟨fun h => (by simp at h; omega), fun h => (HNO.out h).elim⟩, HFZ.out⟩
          · have HNO : Hid (¬ ∃ ms, ModelIs ns zs ms) := fun h => hne ((model_iff ns zs).1 h).2.2.1
            have hd : ((ns.length : Int) == (zs.length : Int)) = false := beq_eq_false_iff_ne.2 (by omega)
            clear hne
            go_wp2_with fail
            go_ret
            exact ⟨false, rfl, ⟨fun h => (by cases h), fun h => (HNO.out h).elim⟩, HFZ.out⟩
end Go.Proofs.YtloecimlimoanaaGreatDoor
