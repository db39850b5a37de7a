/- How the program puts what two lists say. -/
import Derived.Test.YtngbpcphkfmncaaPis
import Derived.Test.YtngbpcphkfmncaaOpn
import Derived.Deep.RegionHeld3
namespace Go.Proofs.Ytngbpcphkfmncaa
open Go.RowKit Go.ChangeMaps

structure RpL (w : World) (q m mb : Nat) (s : List UInt8) (t : Ty) (p : Nat) (ns bs : List (List UInt8)) (j : Nat) (ms : List (Nat × Ty)) (ps : List Nat) (D : List Ty) (wr : World) : Prop where
  pool : Pool wr q m ps D
  by_ : ByAt wr mb ps D (asg ms)
  is_ : PutIs (ns.take j) (bs.take j) ms
  fr : Fr No w wr
  lowm : w.heap.size ≤ m
  lowb : w.heap.size ≤ mb
  ne : mb ≠ m
  has : Has ps D t p
  si : Ty.Is s t

theorem RpL.drew {w : World} {q m mb : Nat} {s : List UInt8} {t : Ty} {p : Nat} {ns bs : List (List UInt8)} {j : Nat} {ms : List (Nat × Ty)} {ps : List Nat} {D : List Ty} {wr : World} (h : RpL w q m mb s t p ns bs j ms ps D wr) : RpL w q m mb s t p ns bs j ms ps D wr.drew :=
  ⟨h.pool.drew, h.by_.grew ((Fr.refl _ wr).drew) h.ne (Grew.refl 0 _ _), h.is_, h.fr.drew, h.lowm, h.lowb, h.ne, h.has, h.si⟩

/-- behind the reading of a text -/
theorem RpL.read {w : World} {q m mb : Nat} {s : List UInt8} {t : Ty} {p : Nat} {ns bs : List (List UInt8)} {j : Nat} {ms : List (Nat × Ty)} {ps ps1 : List Nat} {D D1 : List Ty} {wr w1 : World} {B : Nat} (h : RpL w q m mb s t p ns bs j ms ps D wr)
    (hp : Pool w1 q m ps1 D1) (hf : Fr (One m) wr w1) (hg : Grew B ps D ps1 D1) : RpL w q m mb s t p ns bs j ms ps1 D1 w1 :=
  ⟨hp, h.by_.grew hf h.ne hg, h.is_, h.fr.then_ hf (fun i hi e => by unfold One at e; have := h.lowm; omega), h.lowm, h.lowb, h.ne, h.has.grew hg, h.si⟩

/-- behind a store -/
theorem RpL.more {w : World} {q m mb : Nat} {s : List UInt8} {t u : Ty} {p pu n : Nat} {ns bs : List (List UInt8)} {b : List UInt8} {j : Nat} {ms : List (Nat × Ty)} {ps : List Nat} {D : List Ty} {wr : World} (h : RpL w q m mb s t p ns bs j ms ps D wr)
    (hn : ns[j]? = some [Ty.letter n]) (hb : bs[j]? = some b) (h25 : n < 25) (hi : Ty.Is b u) (hno : asg ms n = none) (hl : ns.length ≤ 26) (hh : Has ps D u pu) :
    ∃ w', (Instr.mapUpdate 60 (.map (some mb)) (.int .i64 n) (Ptr pu)).run Try.prog wr = .ok () w' ∧ RpL w q m mb s t p ns bs (j + 1) (ms ++ [(n, u)]) ps D w' := by
  obtain ⟨w', r, hs, ht, _⟩ := h.by_.store n u pu hh
  have hf : Fr (One mb) wr w' := (Fr.refl _ wr).turned ht (.inl rfl)
  have hne := h.pool.ne_map h.by_
  refine ⟨w', r, h.pool.fr hf hne.1 (fun e => h.ne e.symm) (fun p hp e => hne.2 (by unfold One at e; exact e ▸ hp)), ?_, h.is_.more hn hb h25 hi hno hl, h.fr.then_ hf (fun i hi e => by unfold One at e; have := h.lowb; omega), h.lowm, h.lowb, h.ne, h.has, h.si⟩
  rw [← asg_more hno]
  exact hs

def AnsPut (s : List UInt8) (ns bs : List (List UInt8)) (w : World) (e : Ending) (w' : World) : Prop := ∃ a ok, e = .returned (.tuple #[S a, .bool ok]) ∧ PtR s ns bs a ok ∧ Fr No w w'

set_option maxRecDepth 100000 in
set_option maxHeartbeats 2000000 in
theorem implPut (w : World) (s : List UInt8) (A A' : Option Addr) (ns bs : List (List UInt8)) (c c' : Nat) (hss : s.length ≤ maxLen) (hN : SSl w A ns) (hZ : SSl w A' bs) (hl : ns.length ≤ 2000000) (hl' : bs.length ≤ 2000000) (hs : ∀ x ∈ ns, x.length ≤ maxLen) (hs' : ∀ x ∈ bs, x.length ≤ maxLen) :
    Calls Try.prog 10 #[S s, .slice A ns.length c, .slice A' bs.length c'] w fun e w' => AnsPut s ns bs w e w' := by
  have b1 : (ns.length : Int) ≤ 2000000 := by omega
  have b2 : (bs.length : Int) ≤ 2000000 := by omega
  have HN := Lib.hid hN
  have HZ := Lib.hid hZ
  have HS := Lib.hid hs
  have HS' := Lib.hid hs'
  clear hN hZ hs hs'
  go_enter Try.func10, Try.ntmps10
  go_wp2_with fail
  refine (newPool_any _).mono ?_
  rintro e w1 ⟨rfl, rfl⟩
  have hP := pool_start w
  have hf0 : Fr No w ((w.alloc (.map #[] 0)).alloc (.cells #[.map (some w.heap.size)] 103)) := ((Fr.refl _ _).alloc _).alloc _
  generalize (w.alloc (.map #[] 0)).alloc (.cells #[.map (some w.heap.size)] 103) = w1 at hP hf0 ⊢
  go_wp2_with fail
  refine (read_any w1 _ _ [] [] s 0 hP (by omega) hss).mono ?_
  rintro e w2 ⟨ps, D, hP2, hg, hf, hor⟩
  have hfr : Fr No w w2 := hf0.then_ hf (fun i hi e => by unfold One at e; omega)
  clear hf hf0 hP hg
  rcases hor with ⟨t, p, hi, hh, he⟩ | ⟨hno, he⟩
  · obtain rfl := he
    rw [Ty.shift_zero] at hh
    by_cases hne : ns.length = bs.length
    · by_cases h26 : ns.length ≤ 26
      · have h26' : ¬ 26 < (ns.length : Int) := by omega
        have hmm := @run_makeMap Try.prog
        have HNE := Lib.hid hne
        rw [← hne]
        clear hne b2
        have hml : w.heap.size < w2.heap.size := hP2.low.2.1
        have HL : Hid (RpL w (w.heap.size + 1) w.heap.size w2.heap.size s t p ns bs 0 [] ps D (w2.alloc (.map #[] 0))) :=
          ⟨hP2.fr ((Fr.refl No w2).alloc _) (fun h => h) (fun h => h) (fun _ _ h => h), ⟨0, _, MapAt.made w2 encI, fun n u h => (by cases h), fun _ _ => rfl⟩, by simpa using PutIs.nil, hfr.alloc _, Nat.le_refl _, by omega, by omega, hh, hi⟩
        clear hP2 hfr hi hh
        go_wp2_with fail
        generalize w2.alloc (.map #[] 0) = wa at HL ⊢
        generalize w2.heap.size = mb at HL hml ⊢
        clear hmm hml
        go_loopw [37] (fun u wr => ∃ (j : Nat), j ≤ ns.length ∧ u = .int .i64 j ∧ ∃ ms ps D, RpL w (w.heap.size + 1) w.heap.size mb s t p ns bs j ms ps D wr) (fun u _ => ns.length - (intOf u).toNat)
        case atStart => exact ⟨0, Nat.zero_le _, rfl, _, _, _, HL.out⟩
        case round =>
          obtain ⟨j, hj, rfl, ms, ps, D, hL⟩ := hrel
          have HLJ := Lib.hid hL
          clear hL HL
          by_cases hlt : j < ns.length
          · obtain ⟨x, hxj⟩ : ∃ x, ns[j]? = some x := ⟨_, List.getElem?_eq_getElem hlt⟩
            obtain ⟨b, hbj⟩ : ∃ z, bs[j]? = some z := ⟨_, List.getElem?_eq_getElem (by rw [← HNE.out]; exact hlt)⟩
            obtain ⟨g, o, rfl, hc0⟩ := HN.out j x hxj
            obtain ⟨g', o', rfl, hc1⟩ := HZ.out j b hbj
            have hc := (HLJ.out.fr.cell (p := ⟨g, o + j, none⟩) (block_lt hc0) (fun h => h)).trans hc0
            have HCB : Hid (∀ w', Fr No w w' → w'.cell? ⟨g', o' + j, none⟩ = some (S b)) := fun w' hf => (hf.cell (p := ⟨g', o' + j, none⟩) (block_lt hc1) (fun h => h)).trans hc1
            have hcb := HCB.out wr HLJ.out.fr
            have HXJ := Lib.hid hxj
            have HBJ := Lib.hid hbj
            have HXL := Lib.hid (HS.out x (List.mem_of_getElem? hxj))
            have HBL := Lib.hid (HS'.out b (List.mem_of_getElem? hbj))
            clear hc0 hc1 hxj hbj
            have HD := Lib.hid HLJ.out.drew
            have RV : Hid (∀ w', w' = wr.drew → Calls Try.prog 35 #[Ptr (w.heap.size + 1), S x] w' fun e w2 => ∃ v, e = .returned v ∧ w2.cell? ⟨g', o' + j, none⟩ = some (S b) ∧ ∃ ps2 D2, RpL w (w.heap.size + 1) w.heap.size mb s t p ns bs j ms ps2 D2 w2 ∧
                ((∃ i p, i < 25 ∧ x = [Ty.letter i] ∧ Has ps2 D2 (.v i) p ∧ v = Ptr p) ∨ ((∀ i, i < 25 → x ≠ [Ty.letter i]) ∧ v = .pointer none))) := by
              rintro w' rfl
              refine (readVar_any wr.drew _ _ ps D x HD.out.pool HXL.out).mono ?_
              rintro e w2 ⟨ps2, D2, hP2, hg2, hf2, hor⟩
              have hL2 := HD.out.read hP2 hf2 hg2
              rcases hor with ⟨i, p, hi, hx, hh, he⟩ | ⟨hno, he⟩
              · exact ⟨_, he, HCB.out w2 hL2.fr, ps2, D2, hL2, .inl ⟨i, p, hi, hx, hh, rfl⟩⟩
              · exact ⟨_, he, HCB.out w2 hL2.fr, ps2, D2, hL2, .inr ⟨hno, rfl⟩⟩
            have RT : Hid (∀ w2 ps2 D2, RpL w (w.heap.size + 1) w.heap.size mb s t p ns bs j ms ps2 D2 w2 → Calls Try.prog 34 #[Ptr (w.heap.size + 1), S b, .int .i64 0] w2 fun e w3 => ∃ v, e = .returned v ∧ w3.cell? ⟨g', o' + j, none⟩ = some (S b) ∧ ∃ ps3 D3, RpL w (w.heap.size + 1) w.heap.size mb s t p ns bs j ms ps3 D3 w3 ∧ (∀ t p, Has ps2 D2 t p → Has ps3 D3 t p) ∧
                ((∃ u p, Ty.Is b u ∧ Has ps3 D3 u p ∧ v = Ptr p) ∨ ((∀ u, ¬ Ty.Is b u) ∧ v = .pointer none))) := by
              intro w2 ps2 D2 hL2
              refine (read_any w2 _ _ ps2 D2 b 0 hL2.pool (by omega) HBL.out).mono ?_
              rintro e w3 ⟨ps3, D3, hP3, hg3, hf3, hor⟩
              have hL3 := hL2.read hP3 hf3 hg3
              rcases hor with ⟨u, p, hi, hh, he⟩ | ⟨hno, he⟩
              · exact ⟨_, he, HCB.out w3 hL3.fr, ps3, D3, hL3, fun _ _ h => h.grew hg3, .inl ⟨u, p, hi, by rwa [Ty.shift_zero] at hh, rfl⟩⟩
              · exact ⟨_, he, HCB.out w3 hL3.fr, ps3, D3, hL3, fun _ _ h => h.grew hg3, .inr ⟨hno, rfl⟩⟩
            go_wp2_with fail
            go_region_held3 (fun w' => w'.cell? ⟨g', o' + j, none⟩ = some (S b)) (go_keep)
              (first | (go_at_call 35; ((with_reducible refine (RV.out _ rfl).mono ?_); rintro e w2 ⟨v2, rfl, d2, ps2, D2, hL2, hor2⟩; have HL2 := Lib.hid hL2; have HO2 := Lib.hid hor2; clear hL2 hor2)) | (go_at_call 34; ((with_reducible refine (RT.out _ _ _ HL2.out).mono ?_); rintro e w3 ⟨v3, rfl, d3, ps3, D3, hL3, hgr3, hor3⟩; have HL3 := Lib.hid hL3; have HG3 := Lib.hid hgr3; have HO3 := Lib.hid hor3; clear hL3 hgr3 hor3)))
            have NOPE : Hid (∀ w', Fr No w w' → (∀ ms', ¬ PutIs ns bs ms') → AnsPut s ns bs w (.returned (.tuple #[S [], .bool false])) w') := fun w' hf hno => ⟨_, _, rfl, .inr ⟨fun t' ms' _ hp => (hno ms' hp).elim, rfl, rfl⟩, hf⟩
            rcases HO2.out with ⟨i, pv, hi25, hx, hhv, he⟩ | ⟨hno, he⟩
            · obtain rfl := he
              rcases HO3.out with ⟨u, pu, hbu, hhu, he⟩ | ⟨hno, he⟩
              · obtain rfl := he
                obtain ⟨ka, kb, kc, hb, _⟩ := (HG3.out _ _ hhv).blk HL3.out.pool
                have cp : w3.cell? ⟨pv, 1, none⟩ = some (.int .i64 i) := (hb.cell 1).trans rfl
                obtain ⟨vl, hlk, hvl⟩ := HL3.out.by_.look i
                rcases hvl with ⟨hsi, rfl⟩ | ⟨t', p', hsi, rfl, _⟩
                · subst hx
                  obtain ⟨w4, hrun, hL4⟩ := HL3.out.more HXJ.out HBJ.out hi25 hbu hsi h26 hhu
                  have HL4 := Lib.hid hL4
                  clear hL4 hsi hb hhv hhu hbu
                  go_wp2_with fail
                  go_roundw
                  case rel => exact ⟨j + 1, by omega, by go_num, _, _, _, HL4.out⟩
                  case measure => simp [intOf]; omega
                · have HF : Hid (∀ ms', ¬ PutIs ns bs ms') := by
                    intro ms' h
                    obtain ⟨n, b', t'', h25, hn, _, _, hno⟩ := h.at_ hlt HL3.out.is_
                    rw [HXJ.out, hx] at hn
                    injection hn with hn
                    injection hn with hn
                    have := Ty.letter_inj hi25 h25 hn
                    subst this
                    rw [hsi] at hno
                    cases hno
                  clear hsi hb hhv hhu hbu hx
                  go_wp2_with fail
                  refine bodyPost_ret (v := .tuple #[S [], .bool false]) (by simp [results, Try.results10, go_sem]) rfl ?_
                  exact NOPE.out _ HL3.out.fr HF.out
              · obtain rfl := he
                have HF : Hid (∀ ms', ¬ PutIs ns bs ms') := by
                  intro ms' h
                  obtain ⟨n, b', t'', h25, _, hb', hi', _⟩ := h.at_ hlt HL3.out.is_
                  rw [HBJ.out] at hb'
                  injection hb' with hb'
                  subst hb'
                  exact hno _ hi'
                clear hno hx hhv
                go_wp2_with fail
                refine bodyPost_ret (v := .tuple #[S [], .bool false]) (by simp [results, Try.results10, go_sem]) rfl ?_
                exact NOPE.out _ HL3.out.fr HF.out
            · obtain rfl := he
              have HF : Hid (∀ ms', ¬ PutIs ns bs ms') := by
                intro ms' h
                obtain ⟨n, _, _, h25, hn, _⟩ := h.at_ hlt HL3.out.is_
                rw [HXJ.out] at hn
                injection hn with hn
                exact hno n h25 hn
              clear hno
              go_wp2_with fail
              refine bodyPost_ret (v := .tuple #[S [], .bool false]) (by simp [results, Try.results10, go_sem]) rfl ?_
              exact NOPE.out _ HL3.out.fr HF.out
          · have hjl : j = ns.length := by omega
            have HM : Hid (PutIs ns bs ms) := by
              have := HLJ.out.is_
              rw [hjl, List.take_length, HNE.out, List.take_length] at this
              exact this
            have hsz := put_size t (asg ms) HM.out.sizes
            have hsz2 := HLJ.out.si.2.2
            have HLT : Hid ((t.put (asg ms)).lets) := HM.out.put_lets HLJ.out.si.2.1
            clear hjl
            go_wp2_with fail
            refine (put_any _ _ _ (asg ms) t wr ps D p HLJ.out.pool HLJ.out.by_ HLJ.out.ne HLJ.out.has (by omega)).mono ?_
            rintro e w3 ⟨ps3, D3, p3, hm⟩
            obtain rfl := hm.ret
            have hfr3 : Fr No w w3 := HLJ.out.fr.then_ hm.fr (fun i hi e => by unfold One at e; omega)
            obtain ⟨ka, kb, kc, hb, _⟩ := hm.has.blk hm.pool
            have c4 : w3.cell? ⟨p3, 4, none⟩ = some (.int .i64 (t.put (asg ms)).size) := (hb.cell 4).trans rfl
            have HIS := Lib.hid HLJ.out.si
            clear hb
            by_cases h40 : (t.put (asg ms)).size ≤ 40
            · have h40' : ¬ 40 < ((t.put (asg ms)).size : Int) := by omega
              go_wp2_with fail
              refine (text_any _ _ ps3 D3 (t.put (asg ms)) HLT.out (by omega) w3 p3 hm.pool hm.has).mono ?_
              rintro e w4 ⟨rfl, nn, rfl⟩
              go_wp2_with fail
              refine bodyPost_ret (v := .tuple #[S (t.put (asg ms)).text, .bool true]) (by simp [results, Try.results10, go_sem]) rfl ?_
              exact ⟨_, _, rfl, .inl ⟨t, ms, HIS.out, HM.out, h40, rfl, rfl⟩, hfr3.drewN nn⟩
            · have h40' : 40 < ((t.put (asg ms)).size : Int) := by omega
              go_wp2_with fail
              refine bodyPost_ret (v := .tuple #[S [], .bool false]) (by simp [results, Try.results10, go_sem]) rfl ?_
              refine ⟨_, _, rfl, .inr ⟨fun t' ms' h1 h2 => ?_, rfl, rfl⟩, hfr3⟩
              rw [h1.unique HIS.out, h2.unique HM.out]
              omega
      · have h26' : 26 < (ns.length : Int) := by omega
        rw [← hne]
        have HF : Hid (∀ ms', ¬ PutIs ns bs ms') := fun ms h => h26 h.len.2
        clear b2 hne h26 HN HZ HS HS' hP2 hh
        go_wp2_with fail
        refine bodyPost_ret (v := .tuple #[S [], .bool false]) (by simp [results, Try.results10, go_sem]) rfl ?_
        exact ⟨_, _, rfl, .inr ⟨fun t' ms' _ hp => (HF.out ms' hp).elim, rfl, rfl⟩, hfr⟩
    · have hd : ((ns.length : Int) == (bs.length : Int)) = false := beq_eq_false_iff_ne.2 (by omega)
      have HF : Hid (∀ ms', ¬ PutIs ns bs ms') := fun ms h => hne h.len.1
      clear HN HZ HS HS' hP2 hh
      go_wp2_with fail
      refine bodyPost_ret (v := .tuple #[S [], .bool false]) (by simp [results, Try.results10, go_sem]) rfl ?_
      exact ⟨_, _, rfl, .inr ⟨fun t' ms' _ hp => (HF.out ms' hp).elim, rfl, rfl⟩, hfr⟩
  · obtain rfl := he
    have HNO := Lib.hid hno
    clear HN HZ HS HS' hP2 hno
    go_wp2_with fail
    refine bodyPost_ret (v := .tuple #[S [], .bool false]) (by simp [results, Try.results10, go_sem]) rfl ?_
    exact ⟨_, _, rfl, .inr ⟨fun t' ms' ht _ => (HNO.out t' ht).elim, rfl, rfl⟩, hfr⟩
end Go.Proofs.Ytngbpcphkfmncaa
