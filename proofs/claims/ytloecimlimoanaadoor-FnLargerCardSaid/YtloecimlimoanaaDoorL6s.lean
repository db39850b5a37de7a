/- The space of relations of the model: l6rSets. · Related, on the side of the model. -/
import Derived.Test.YtloecimlimoanaaDoorRdl
import Derived.Test.YtloecimlimoanaaDoorMrf
/- The space of relations of the model: l6rSets. -/
namespace Go.Proofs.YtloecimlimoanaaDoor
open Go.RowKit Go.ChangeMaps

theorem or_none (w : World) (B : Nat) : OR w B none 0 0 [] := ⟨rfl, rfl, .inl ⟨rfl, rfl⟩⟩

/-- what the loop over the relations keeps -/
structure L6I (w : World) (N0 R0 : Value) (xs ys : List Int) (n8 c8 n9 c9 : Nat) (A8 A9 : Option Addr) (V : World) : Prop where
  fr : Fr No w V
  blk : Blk V w.heap.size 91 #[N0, R0, .slice A8 n8 c8, .slice A9 n9 c9]
  o2 : OR V (w.heap.size + 1) A8 n8 c8 xs
  o3 : OR V (w.heap.size + 1) A9 n9 c9 ys
  ap : ∀ b, Own A8 b → ¬ Own A9 b

theorem L6I.no {w : World} {N0 R0 : Value} {xs ys : List Int} {n8 c8 n9 c9 : Nat} {A8 A9 : Option Addr} {V V' : World} (h : L6I w N0 R0 xs ys n8 c8 n9 c9 A8 A9 V) (hf : Fr No V V') : L6I w N0 R0 xs ys n8 c8 n9 c9 A8 A9 V' := ⟨h.fr.trans hf, h.blk.fr hf (fun h => h), h.o2.no hf, h.o3.no hf, h.ap⟩

theorem L6I.base {w : World} {N0 R0 : Value} {xs ys : List Int} {n8 c8 n9 c9 : Nat} {A8 A9 : Option Addr} {V V' : World} (h : L6I w N0 R0 xs ys n8 c8 n9 c9 A8 A9 V) (hf : Fr No V V') : w.heap.size + 1 ≤ V'.heap.size := by
  have := h.blk.lt
  have := hf.size
  omega

theorem own_key {A : Option Addr} {n c g z : Nat} (hw : (Value.slice A n c).ownBlock = some g ∨ g = z) : ∀ b, Own (some ⟨g, 0, none⟩) b → Own A b ∨ b = z := fun b hb => by
  obtain ⟨a, ha, hab⟩ := hb
  injection ha with ha
  subst ha
  have hab : g = b := hab
  subst hab
  rcases hw with hw | hw
  · left
    unfold Value.ownBlock at hw
    cases A with
    | none => cases hw
    | some a => exact ⟨a, rfl, by injection hw⟩
  · exact .inr hw

theorem L6I.more2 {w : World} {N0 R0 : Value} {xs ys : List Int} {n8 c8 n9 c9 g cap : Nat} {x : Int} {A8 A9 : Option Addr} {V V' w1 : World} (h : L6I w N0 R0 xs ys n8 c8 n9 c9 A8 A9 V) (hV : Fr No V V') (ho : w1.ownsRow (w.heap.size + 1) 3 1 (.slice (some ⟨g, 0, none⟩) (n8 + 1) cap) (n8 + 1) (xs.map (Value.int .i64) ++ [.int .i64 x])) (hg : V'.grownBy w1 (Value.slice A8 n8 c8).ownBlock) (hw : (Value.slice A8 n8 c8).ownBlock = some g ∨ g = V'.heap.size) :
    Fr No w w1 ∧ w1.cell? ⟨w.heap.size, 2, none⟩ = some (.slice A8 n8 c8) ∧ w1.frozen? ⟨w.heap.size, 2, none⟩ = false ∧ w.heap.size < w1.heap.size ∧ Hid (L6I w N0 R0 (xs ++ [x]) ys (n8 + 1) cap n9 c9 (some ⟨g, 0, none⟩) A9 (w1.setCell ⟨w.heap.size, 2, none⟩ (.slice (some ⟨g, 0, none⟩) (n8 + 1) cap))) := by
  have h' := h.no hV
  obtain ⟨g', cap', e, hf, hor⟩ := or_more h'.o2 (Fr.refl No V') ho hg
  injection e with e1 e2 e3
  injection e1 with e1
  injection e1 with e1
  subst e1 e3
  have key := own_key hw
  have hb1 := h'.blk.fr hf (fun h => by have := (h'.o2.bounds h).1; omega)
  have hf1 : Fr No w w1 := h'.fr.then_ hf (fun i hi h => by have := (h'.o2.bounds h).1; omega)
  have ho3 := h'.o3.fr hf (fun b h1 h2 => h'.ap b h2 h1)
  have hfs : Fr (One w.heap.size) w1 (w1.setCell ⟨w.heap.size, 2, none⟩ (.slice (some ⟨g, 0, none⟩) (n8 + 1) cap)) := (Fr.refl (One w.heap.size) w1).setCell (p := ⟨w.heap.size, 2, none⟩) (.inl rfl) _
  refine ⟨hf1, (hb1.cell 2).trans rfl, hb1.frozen 2, hb1.lt, hf1.setCell (p := ⟨w.heap.size, 2, none⟩) (.inr (Nat.le_refl _)) _, hb1.set_ 2 _, hor.fr hfs (fun b h1 h2 => ?_), ho3.fr hfs (fun b h1 h2 => ?_), fun b h1 h2 => ?_⟩
  · have := (hor.bounds h1).1; have h2 : b = w.heap.size := h2; omega
  · have := (h'.o3.bounds h1).1; have h2 : b = w.heap.size := h2; omega
  · rcases key b h1 with h3 | h3
    · exact h'.ap b h3 h2
    · have := (h'.o3.bounds h2).2; omega

theorem L6I.more3 {w : World} {N0 R0 : Value} {xs ys : List Int} {n8 c8 n9 c9 g cap : Nat} {x : Int} {A8 A9 : Option Addr} {V V' w1 : World} (h : L6I w N0 R0 xs ys n8 c8 n9 c9 A8 A9 V) (hV : Fr No V V') (ho : w1.ownsRow (w.heap.size + 1) 3 1 (.slice (some ⟨g, 0, none⟩) (n9 + 1) cap) (n9 + 1) (ys.map (Value.int .i64) ++ [.int .i64 x])) (hg : V'.grownBy w1 (Value.slice A9 n9 c9).ownBlock) (hw : (Value.slice A9 n9 c9).ownBlock = some g ∨ g = V'.heap.size) :
    Fr No w w1 ∧ w1.cell? ⟨w.heap.size, 3, none⟩ = some (.slice A9 n9 c9) ∧ w1.frozen? ⟨w.heap.size, 3, none⟩ = false ∧ w.heap.size < w1.heap.size ∧ Hid (L6I w N0 R0 xs (ys ++ [x]) n8 c8 (n9 + 1) cap A8 (some ⟨g, 0, none⟩) (w1.setCell ⟨w.heap.size, 3, none⟩ (.slice (some ⟨g, 0, none⟩) (n9 + 1) cap))) := by
  have h' := h.no hV
  obtain ⟨g', cap', e, hf, hor⟩ := or_more h'.o3 (Fr.refl No V') ho hg
  injection e with e1 e2 e3
  injection e1 with e1
  injection e1 with e1
  subst e1 e3
  have key := own_key hw
  have hb1 := h'.blk.fr hf (fun h => by have := (h'.o3.bounds h).1; omega)
  have hf1 : Fr No w w1 := h'.fr.then_ hf (fun i hi h => by have := (h'.o3.bounds h).1; omega)
  have ho2 := h'.o2.fr hf (fun b h1 h2 => h'.ap b h1 h2)
  have hfs : Fr (One w.heap.size) w1 (w1.setCell ⟨w.heap.size, 3, none⟩ (.slice (some ⟨g, 0, none⟩) (n9 + 1) cap)) := (Fr.refl (One w.heap.size) w1).setCell (p := ⟨w.heap.size, 3, none⟩) (.inl rfl) _
  refine ⟨hf1, (hb1.cell 3).trans rfl, hb1.frozen 3, hb1.lt, hf1.setCell (p := ⟨w.heap.size, 3, none⟩) (.inr (Nat.le_refl _)) _, hb1.set_ 3 _, ho2.fr hfs (fun b h1 h2 => ?_), hor.fr hfs (fun b h1 h2 => ?_), fun b h1 h2 => ?_⟩
  · have := (h'.o2.bounds h1).1; have h2 : b = w.heap.size := h2; omega
  · have := (hor.bounds h1).1; have h2 : b = w.heap.size := h2; omega
  · rcases key b h2 with h3 | h3
    · exact h'.ap b h1 h3
    · have := (h'.o2.bounds h1).2; omega

/-- what l6rSets answers -/
def L6P (N A : Option Addr) (nc rc : Nat) (ns : List (List UInt8)) (rs : List (Int × Int × List Int)) (w : World) (e : Ending) (w' : World) : Prop :=
  Fr No w w' ∧ ∃ (Q : Nat) (b : Bool), e = .returned (.tuple #[Ptr Q, .bool b]) ∧ (b = true → ∃ (A8 A9 : Option Addr) (c8 c9 : Nat), L6I w (.slice N ns.length nc) (.slice A rs.length rc) (ls rs) (rt rs) rs.length c8 rs.length c9 A8 A9 w' ∧ Q = w.heap.size ∧ ∃ ml mr, SpIs ns rs ml mr) ∧ (b = false → ∀ ml mr, ¬ SpIs ns rs ml mr)

set_option maxRecDepth 100000 in
set_option maxHeartbeats 8000000 in
theorem l6sets_any (w : World) (N A : Option Addr) (nc rc : Nat) (ns : List (List UInt8)) (rs : List (Int × Int × List Int)) (hnc : ns.length ≤ nc) (hN : SSl w N ns) (hA : Rels w A rs) (hl : ns.length ≤ 1048576) (hl' : rs.length ≤ 1048576) (hnl : ∀ x ∈ ns, x.length ≤ maxLen) :
    Calls Tryd.prog 58 #[.slice N ns.length nc, .slice A rs.length rc] w fun e w' => L6P N A nc rc ns rs w e w' := by
  obtain ⟨i0, hi0, hz0, hz1, hz2⟩ := info_parts info_int
  have hlI : (rs.length : Int) ≤ 1048576 := by omega
  have HN := Lib.hid hN
  have HA := Lib.hid hA
  have HNL := Lib.hid hnl
  have H0 : Hid (L6I w (.slice N ns.length nc) (.slice A rs.length rc) [] [] 0 0 0 0 none none (w.alloc (.cells #[.slice N ns.length nc, .slice A rs.length rc, .slice none 0 0, .slice none 0 0] 91))) := ⟨(Fr.refl No w).alloc _, Blk.new _ _ _, or_none _ _, or_none _ _, fun b ⟨a, h, _⟩ => by cases h⟩
  clear hN hA hnl
  go_enter Tryd.func58, Tryd.ntmps58
  go_wp2_with fail
  go_loopw [7] (fun u W => ∃ (j c8 c9 : Nat) (A8 A9 : Option Addr), j ≤ rs.length ∧ u = .int .i64 j ∧ L6I w (.slice N ns.length nc) (.slice A rs.length rc) ((ls rs).take j) ((rt rs).take j) j c8 j c9 A8 A9 W ∧ ∀ r ∈ rs.take j, RelOk r.1 r.2.1 r.2.2) (fun u _ => rs.length - (intOf u).toNat)
  case atStart => exact ⟨0, 0, 0, none, none, Nat.zero_le _, rfl, H0.out, fun r h => by simp at h⟩
  case round =>
    obtain ⟨j, c8, c9, A8, A9, hj, rfl, hI, hok⟩ := hrel
    have HI := Lib.hid hI
    have HOK := Lib.hid hok
    clear hI hok
    by_cases hlt : j < rs.length
    · have hjI : (j : Int) < (rs.length : Int) := by omega
      obtain ⟨⟨L, R, ps⟩, hr⟩ : ∃ r, rs[j]? = some r := ⟨_, List.getElem?_eq_getElem hlt⟩
      obtain ⟨g, o, B, cc, rfl, c0, c1, c2, hps, hpl⟩ := (HA.out.no HI.out.fr) j L R ps hr
      have l0 := block_lt c0
      have CS : Hid (∀ V, Fr No w V → V.cell? ⟨g, o + j * 3, none⟩ = some (.int .i64 L) ∧ V.cell? ⟨g, o + j * 3 + 1, none⟩ = some (.int .i64 R)) := fun V hf => by
        obtain ⟨g', o', B', cc', e, d0, d1, d2, _, _⟩ := (HA.out.no hf) j L R ps hr
        injection e with e
        injection e with e1 e2
        subst e1 e2
        exact ⟨d0, d1⟩
      have VAL := Lib.hid (specRelValid wr L R B cc ps hps hpl)
      have HR := Lib.hid hr
      clear hps hpl hr
      go_wp2_with fail
      refine VAL.out.mono ?_
      rintro e w2 ⟨b, rfl, hb, hf2⟩
      cases b with
      | false =>
        have HE : Hid (L6P N (some ⟨g, o, none⟩) nc rc ns rs w (.returned (.tuple #[Ptr w.heap.size, .bool false])) w2) := ⟨HI.out.fr.trans hf2, _, false, rfl, fun h => (by cases h), fun _ ml mr h => by
          have := hb.2 (h.ok _ (List.mem_of_getElem? HR.out))
          cases this⟩
        clear hb hf2 c0 c1 c2
        go_wp2_with fail
        go_ret2
        exact HE.out
      | true =>
        have HI2 := Lib.hid (HI.out.no hf2)
        have HOK2 : Hid (∀ r ∈ rs.take (j + 1), RelOk r.1 r.2.1 r.2.2) := by
          intro r hr
          rw [List.take_add_one, HR.out] at hr
          rcases List.mem_append.1 hr with h | h
          · exact HOK.out r h
          · have e : r = (L, R, ps) := by simpa using h
            subst e
            exact hb.1 rfl
        have p2 : w2.cell? ⟨w.heap.size, 2, none⟩ = some (.slice A8 j c8) := (HI2.out.blk.cell 2).trans rfl
        have lQ := HI2.out.blk.lt
        obtain ⟨c0, c1⟩ := CS.out w2 HI2.out.fr
        have l0 := block_lt c0
        clear hb hf2 HOK
        go_wp2_with fail
        refine wp_region_held_drew (S := fun w' => w'.cell? ⟨g, o + j * 3, none⟩ = some (.int .i64 L) ∧ w'.cell? ⟨g, o + j * 3 + 1, none⟩ = some (.int .i64 R)) (by kernel_rfl) ?hS (fun hHeld => ?_)
        case hS => exact CS.out _ (HI2.out.fr.trans ((Fr.refl No _).drew))
        refine wpAnyH_take (i := 0) (v := ?vz1) (by simp only [List.getElem?_toArray, List.getElem?_cons_zero]; rfl) (by kernel_rfl) (by kernel_rfl) (by kernel_rfl) (by exact fun _ _ _ h => h) (Or.inl ⟨by rfl, ?hyz1⟩) (by assumption) ?restz1
        case hyz1 => (intro w hSw; (try dsimp only at hSw); go_simp; try with_reducible rfl)
        ((try simp only [Act.put]); (try simp only [List.setIfInBounds_toArray]); (try simp only [List.set_cons_succ]); (try simp only [List.set_cons_zero]))
        refine wpAnyH_take (i := 1) (v := ?vz2) (by simp only [List.getElem?_toArray, List.getElem?_cons_succ, List.getElem?_cons_zero]; rfl) (by kernel_rfl) (by kernel_rfl) (by kernel_rfl) (by exact fun _ _ _ h => h) (Or.inl ⟨by rfl, ?hyz2⟩) (by assumption) ?restz2
        case hyz2 => (intro w hSw; (try dsimp only at hSw); go_simp; try with_reducible rfl)
        ((try simp only [Act.put]); (try simp only [List.setIfInBounds_toArray]); (try simp only [List.set_cons_succ]); (try simp only [List.set_cons_zero]))
        refine wpAnyH_take (i := 2) (v := ?vz3) (by simp only [List.getElem?_toArray, List.getElem?_cons_succ, List.getElem?_cons_zero]; rfl) (by kernel_rfl) (by kernel_rfl) (by kernel_rfl) (by exact fun _ _ _ h => h) (Or.inl ⟨by rfl, ?hyz3⟩) (by assumption) ?restz3
        case hyz3 => (intro w hSw; (try dsimp only at hSw); go_simp; try with_reducible rfl)
        ((try simp only [Act.put]); (try simp only [List.setIfInBounds_toArray]); (try simp only [List.set_cons_succ]); (try simp only [List.set_cons_zero]))
        refine wpAnyH_take (i := 3) (v := ?vz4) (by simp only [List.getElem?_toArray, List.getElem?_cons_succ, List.getElem?_cons_zero]; rfl) (by kernel_rfl) (by kernel_rfl) (by kernel_rfl) (by exact fun _ _ _ h => h) (Or.inl ⟨by rfl, ?hyz4⟩) (by assumption) ?restz4
        case hyz4 => (intro w hSw; (try dsimp only at hSw); go_simp; try with_reducible rfl)
        ((try simp only [Act.put]); (try simp only [List.setIfInBounds_toArray]); (try simp only [List.set_cons_succ]); (try simp only [List.set_cons_zero]))
        refine wpAnyH_take (i := 5) (v := ?vz5) (by simp only [List.getElem?_toArray, List.getElem?_cons_succ, List.getElem?_cons_zero]; rfl) (by kernel_rfl) (by kernel_rfl) (by kernel_rfl) (by exact fun _ _ _ h => h) (Or.inl ⟨by rfl, ?hyz5⟩) (by assumption) ?restz5
        case hyz5 => (intro w hSw; (try dsimp only at hSw); go_simp; try with_reducible rfl)
        ((try simp only [Act.put]); (try simp only [List.setIfInBounds_toArray]); (try simp only [List.set_cons_succ]); (try simp only [List.set_cons_zero]))
        refine wpAnyH_take (i := 6) (v := ?vz6) (by simp only [List.getElem?_toArray, List.getElem?_cons_succ, List.getElem?_cons_zero]; rfl) (by kernel_rfl) (by kernel_rfl) (by kernel_rfl) (by exact fun _ _ _ h => h) (Or.inl ⟨by rfl, ?hyz6⟩) (by assumption) ?restz6
        case hyz6 => (intro w hSw; (try dsimp only at hSw); go_simp; try with_reducible rfl)
        ((try simp only [Act.put]); (try simp only [List.setIfInBounds_toArray]); (try simp only [List.set_cons_succ]); (try simp only [List.set_cons_zero]))
        refine wpAnyH_take (i := 7) (v := ?vz7) (by simp only [List.getElem?_toArray, List.getElem?_cons_succ, List.getElem?_cons_zero]; rfl) (by kernel_rfl) (by kernel_rfl) (by kernel_rfl) (by exact fun _ _ _ h => h) (Or.inl ⟨by rfl, ?hyz7⟩) (by assumption) ?restz7
        case hyz7 => (intro w hSw; (try dsimp only at hSw); go_simp; try with_reducible rfl)
        ((try simp only [Act.put]); (try simp only [List.setIfInBounds_toArray]); (try simp only [List.set_cons_succ]); (try simp only [List.set_cons_zero]))
        refine wpAnyH_take (i := 8) (v := ?vz8) (by simp only [List.getElem?_toArray, List.getElem?_cons_succ, List.getElem?_cons_zero]; rfl) (by kernel_rfl) (by kernel_rfl) (by kernel_rfl) (by exact fun _ _ _ h => h) (Or.inl ⟨by rfl, ?hyz8⟩) (by assumption) ?restz8
        case hyz8 => (intro w hSw; (try dsimp only at hSw); go_simp; try with_reducible rfl)
        ((try simp only [Act.put]); (try simp only [List.setIfInBounds_toArray]); (try simp only [List.set_cons_succ]); (try simp only [List.set_cons_zero]))
        refine wpAnyH_take (i := 9) (v := ?vz9) (by simp only [List.getElem?_toArray, List.getElem?_cons_succ, List.getElem?_cons_zero]; rfl) (by kernel_rfl) (by kernel_rfl) (by kernel_rfl) (by exact fun _ _ _ h => h) (Or.inl ⟨by rfl, ?hyz9⟩) (by assumption) ?restz9
        case hyz9 => (intro w hSw; (try dsimp only at hSw); go_simp; try with_reducible rfl)
        ((try simp only [Act.put]); (try simp only [List.setIfInBounds_toArray]); (try simp only [List.set_cons_succ]); (try simp only [List.set_cons_zero]))
        refine wpAnyH_ready (rs := [4, 10]) (by kernel_rfl) (by simp) ?_
        refine AllReadyH.cons rfl (fun K hK => ?_) (AllReadyH.cons rfl (fun K hK => ?_) AllReadyH.nil)
        · go_simp
          refine hK.out _ _ (by assumption) (fun hH1 => ?_)
          clear hK K
          ((try simp only [Act.put]); (try simp only [List.setIfInBounds_toArray]); (try simp only [List.set_cons_succ]); (try simp only [List.set_cons_zero]))
          refine wpAnyH_ready (rs := [10]) (by kernel_rfl) (by simp) ?_
          refine AllReadyH.cons rfl (fun K hK => ?_) AllReadyH.nil
          go_simp
          refine hK.out _ _ (CS.out _ (HI2.out.fr.trans (((Fr.refl No w2).alloc (.cells #[.int .i64 L] 3)).drew))) (fun hH2 => ?_)
          clear hK K
          ((try simp only [Act.put]); (try simp only [List.setIfInBounds_toArray]); (try simp only [List.set_cons_succ]); (try simp only [List.set_cons_zero]))
          refine wpAnyH_ready (rs := [11]) (by kernel_rfl) (by simp) ?_
          refine AllReadyH.cons rfl (fun K hK => ?_) AllReadyH.nil
          refine step_append_lies _ (by rfl) _ _ _ (by rfl) (w.heap.size + 1) 3 i0 (.int .i64 0) 1 8 Tryd.underlying28 hi0 hz0 hz1 hz2 (by rfl) (by decide) (.slice A8 j c8) j (((ls rs).take j).map (Value.int .i64)) (by rfl) ((HI2.out.no (((Fr.refl No w2).alloc (.cells #[.int .i64 L] 3)).drew)).o2.2) ⟨_, 0, none⟩ 1 1 [.int .i64 L] (by first | rfl | (go_simp; done) | (simp; done)) (by rfl) (fun k u h => cell_one_new w2 _ _ k u h) (by simp [Value.oneCell']) (by decide) (by unfold maxLen; omega) (by omega) (HI2.out.base (((Fr.refl No w2).alloc (.cells #[.int .i64 L] 3)).drew)) _ rfl ?_
          intro g4 cap4 w4 hown4 hgrow4 hat4 _
          obtain ⟨k1, k2, k3, k4, k5⟩ := HI2.out.more2 (((Fr.refl No w2).alloc (.cells #[.int .i64 L] 3)).drew) hown4 hgrow4 hat4; clear hown4 hgrow4 hat4
          refine hK.out _ _ (CS.out _ k1) (fun hH3 => ?_)
          clear hK K
          ((try simp only [Act.put, List.getElem_toArray, List.getElem_cons_succ, List.getElem_cons_zero]); (try simp only [List.setIfInBounds_toArray]); (try simp only [List.set_cons_succ]); (try simp only [List.set_cons_zero]))
          refine wpAnyH_take (i := 12) (v := ?vz10) (by simp only [List.getElem?_toArray, List.getElem?_cons_succ, List.getElem?_cons_zero]; rfl) (by kernel_rfl) (by kernel_rfl) (by kernel_rfl) (by exact fun _ _ _ h => h) (Or.inl ⟨by rfl, ?hyz10⟩) (by assumption) ?restz10
          case hyz10 => (intro w hSw; (try dsimp only at hSw); go_simp; try with_reducible rfl)
          ((try simp only [Act.put]); (try simp only [List.setIfInBounds_toArray]); (try simp only [List.set_cons_succ]); (try simp only [List.set_cons_zero]))
          refine wpAnyH_take (i := 13) (v := ?vz11) (by simp only [List.getElem?_toArray, List.getElem?_cons_succ, List.getElem?_cons_zero]; rfl) (by kernel_rfl) (by kernel_rfl) (by kernel_rfl) (by exact fun _ _ _ h => h) (Or.inl ⟨by rfl, ?hyz11⟩) (by assumption) ?restz11
          case hyz11 => (intro w hSw; (try dsimp only at hSw); go_simp; try with_reducible rfl)
          ((try simp only [Act.put]); (try simp only [List.setIfInBounds_toArray]); (try simp only [List.set_cons_succ]); (try simp only [List.set_cons_zero]))
          refine wpAnyH_ready (rs := [14]) (by kernel_rfl) (by simp) ?_
          refine AllReadyH.cons rfl (fun K hK => ?_) AllReadyH.nil
          go_simp
          refine hK.out _ _ (CS.out _ k5.out.fr) (fun hH4 => ?_)
          clear hK K
          ((try simp only [Act.put]); (try simp only [List.setIfInBounds_toArray]); (try simp only [List.set_cons_succ]); (try simp only [List.set_cons_zero]))
          refine wpAnyH_done (by kernel_rfl) ?_ _
          have k6 := k5.out
          clear k1 k2 k3 k4 k5
          obtain ⟨V5, hV5⟩ : ∃ V5, V5 = w4.setCell ⟨w.heap.size, 2, none⟩ (.slice (some ⟨g4, 0, none⟩) (j + 1) cap4) := ⟨_, rfl⟩
          rw [← hV5] at k6
          have I5 := Lib.hid k6
          have p3 : V5.cell? ⟨w.heap.size, 3, none⟩ = some (.slice A9 j c9) := (k6.blk.cell 3).trans rfl
          have lQ5 := k6.blk.lt
          obtain ⟨d0, d1⟩ := CS.out V5 k6.fr
          have l5 := block_lt d0
          have HV5 := Lib.hid hV5
          clear k6 hV5 p2
          go_wp2_with fail
          rw [← HV5.out]
          clear HV5
          refine wp_region_held_drew (S := fun w' => w'.cell? ⟨g, o + j * 3, none⟩ = some (.int .i64 L) ∧ w'.cell? ⟨g, o + j * 3 + 1, none⟩ = some (.int .i64 R)) (by kernel_rfl) ?hS (fun hHeld => ?_)
          case hS => exact CS.out _ (I5.out.fr.trans ((Fr.refl No _).drew))
          refine wpAnyH_take (i := 0) (v := ?vz12) (by simp only [List.getElem?_toArray, List.getElem?_cons_zero]; rfl) (by kernel_rfl) (by kernel_rfl) (by kernel_rfl) (by exact fun _ _ _ h => h) (Or.inl ⟨by rfl, ?hyz12⟩) (by assumption) ?restz12
          case hyz12 => (intro w hSw; (try dsimp only at hSw); go_simp; try with_reducible rfl)
          ((try simp only [Act.put]); (try simp only [List.setIfInBounds_toArray]); (try simp only [List.set_cons_succ]); (try simp only [List.set_cons_zero]))
          refine wpAnyH_take (i := 1) (v := ?vz13) (by simp only [List.getElem?_toArray, List.getElem?_cons_succ, List.getElem?_cons_zero]; rfl) (by kernel_rfl) (by kernel_rfl) (by kernel_rfl) (by exact fun _ _ _ h => h) (Or.inl ⟨by rfl, ?hyz13⟩) (by assumption) ?restz13
          case hyz13 => (intro w hSw; (try dsimp only at hSw); go_simp; try with_reducible rfl)
          ((try simp only [Act.put]); (try simp only [List.setIfInBounds_toArray]); (try simp only [List.set_cons_succ]); (try simp only [List.set_cons_zero]))
          refine wpAnyH_take (i := 2) (v := ?vz14) (by simp only [List.getElem?_toArray, List.getElem?_cons_succ, List.getElem?_cons_zero]; rfl) (by kernel_rfl) (by kernel_rfl) (by kernel_rfl) (by exact fun _ _ _ h => h) (Or.inl ⟨by rfl, ?hyz14⟩) (by assumption) ?restz14
          case hyz14 => (intro w hSw; (try dsimp only at hSw); go_simp; try with_reducible rfl)
          ((try simp only [Act.put]); (try simp only [List.setIfInBounds_toArray]); (try simp only [List.set_cons_succ]); (try simp only [List.set_cons_zero]))
          refine wpAnyH_take (i := 3) (v := ?vz15) (by simp only [List.getElem?_toArray, List.getElem?_cons_succ, List.getElem?_cons_zero]; rfl) (by kernel_rfl) (by kernel_rfl) (by kernel_rfl) (by exact fun _ _ _ h => h) (Or.inl ⟨by rfl, ?hyz15⟩) (by assumption) ?restz15
          case hyz15 => (intro w hSw; (try dsimp only at hSw); go_simp; try with_reducible rfl)
          ((try simp only [Act.put]); (try simp only [List.setIfInBounds_toArray]); (try simp only [List.set_cons_succ]); (try simp only [List.set_cons_zero]))
          refine wpAnyH_take (i := 5) (v := ?vz16) (by simp only [List.getElem?_toArray, List.getElem?_cons_succ, List.getElem?_cons_zero]; rfl) (by kernel_rfl) (by kernel_rfl) (by kernel_rfl) (by exact fun _ _ _ h => h) (Or.inl ⟨by rfl, ?hyz16⟩) (by assumption) ?restz16
          case hyz16 => (intro w hSw; (try dsimp only at hSw); go_simp; try with_reducible rfl)
          ((try simp only [Act.put]); (try simp only [List.setIfInBounds_toArray]); (try simp only [List.set_cons_succ]); (try simp only [List.set_cons_zero]))
          refine wpAnyH_take (i := 6) (v := ?vz17) (by simp only [List.getElem?_toArray, List.getElem?_cons_succ, List.getElem?_cons_zero]; rfl) (by kernel_rfl) (by kernel_rfl) (by kernel_rfl) (by exact fun _ _ _ h => h) (Or.inl ⟨by rfl, ?hyz17⟩) (by assumption) ?restz17
          case hyz17 => (intro w hSw; (try dsimp only at hSw); go_simp; try with_reducible rfl)
          ((try simp only [Act.put]); (try simp only [List.setIfInBounds_toArray]); (try simp only [List.set_cons_succ]); (try simp only [List.set_cons_zero]))
          refine wpAnyH_take (i := 7) (v := ?vz18) (by simp only [List.getElem?_toArray, List.getElem?_cons_succ, List.getElem?_cons_zero]; rfl) (by kernel_rfl) (by kernel_rfl) (by kernel_rfl) (by exact fun _ _ _ h => h) (Or.inl ⟨by rfl, ?hyz18⟩) (by assumption) ?restz18
          case hyz18 => (intro w hSw; (try dsimp only at hSw); go_simp; try with_reducible rfl)
          ((try simp only [Act.put]); (try simp only [List.setIfInBounds_toArray]); (try simp only [List.set_cons_succ]); (try simp only [List.set_cons_zero]))
          refine wpAnyH_take (i := 8) (v := ?vz19) (by simp only [List.getElem?_toArray, List.getElem?_cons_succ, List.getElem?_cons_zero]; rfl) (by kernel_rfl) (by kernel_rfl) (by kernel_rfl) (by exact fun _ _ _ h => h) (Or.inl ⟨by rfl, ?hyz19⟩) (by assumption) ?restz19
          case hyz19 => (intro w hSw; (try dsimp only at hSw); go_simp; try with_reducible rfl)
          ((try simp only [Act.put]); (try simp only [List.setIfInBounds_toArray]); (try simp only [List.set_cons_succ]); (try simp only [List.set_cons_zero]))
          refine wpAnyH_take (i := 9) (v := ?vz20) (by simp only [List.getElem?_toArray, List.getElem?_cons_succ, List.getElem?_cons_zero]; rfl) (by kernel_rfl) (by kernel_rfl) (by kernel_rfl) (by exact fun _ _ _ h => h) (Or.inl ⟨by rfl, ?hyz20⟩) (by assumption) ?restz20
          case hyz20 => (intro w hSw; (try dsimp only at hSw); go_simp; try with_reducible rfl)
          ((try simp only [Act.put]); (try simp only [List.setIfInBounds_toArray]); (try simp only [List.set_cons_succ]); (try simp only [List.set_cons_zero]))
          refine wpAnyH_ready (rs := [4, 10]) (by kernel_rfl) (by simp) ?_
          refine AllReadyH.cons rfl (fun K hK => ?_) (AllReadyH.cons rfl (fun K hK => ?_) AllReadyH.nil)
          · go_simp
            refine hK.out _ _ (by assumption) (fun hH1 => ?_)
            clear hK K
            ((try simp only [Act.put]); (try simp only [List.setIfInBounds_toArray]); (try simp only [List.set_cons_succ]); (try simp only [List.set_cons_zero]))
            refine wpAnyH_ready (rs := [10]) (by kernel_rfl) (by simp) ?_
            refine AllReadyH.cons rfl (fun K hK => ?_) AllReadyH.nil
            go_simp
            refine hK.out _ _ (CS.out _ (I5.out.fr.trans (((Fr.refl No V5).alloc (.cells #[.int .i64 R] 3)).drew))) (fun hH2 => ?_)
            clear hK K
            ((try simp only [Act.put]); (try simp only [List.setIfInBounds_toArray]); (try simp only [List.set_cons_succ]); (try simp only [List.set_cons_zero]))
            refine wpAnyH_ready (rs := [11]) (by kernel_rfl) (by simp) ?_
            refine AllReadyH.cons rfl (fun K hK => ?_) AllReadyH.nil
            refine step_append_lies _ (by rfl) _ _ _ (by rfl) (w.heap.size + 1) 3 i0 (.int .i64 0) 1 8 Tryd.underlying28 hi0 hz0 hz1 hz2 (by rfl) (by decide) (.slice A9 j c9) j (((rt rs).take j).map (Value.int .i64)) (by rfl) ((I5.out.no (((Fr.refl No V5).alloc (.cells #[.int .i64 R] 3)).drew)).o3.2) ⟨_, 0, none⟩ 1 1 [.int .i64 R] (by first | rfl | (go_simp; done) | (simp; done)) (by rfl) (fun k u h => cell_one_new V5 _ _ k u h) (by simp [Value.oneCell']) (by decide) (by unfold maxLen; omega) (by omega) (I5.out.base (((Fr.refl No V5).alloc (.cells #[.int .i64 R] 3)).drew)) _ rfl ?_
            intro g4 cap4 w4 hown4 hgrow4 hat4 _
            obtain ⟨k1, k2, k3, k4, k5⟩ := I5.out.more3 (((Fr.refl No V5).alloc (.cells #[.int .i64 R] 3)).drew) hown4 hgrow4 hat4; clear hown4 hgrow4 hat4
            refine hK.out _ _ (CS.out _ k1) (fun hH3 => ?_)
            clear hK K
            ((try simp only [Act.put, List.getElem_toArray, List.getElem_cons_succ, List.getElem_cons_zero]); (try simp only [List.setIfInBounds_toArray]); (try simp only [List.set_cons_succ]); (try simp only [List.set_cons_zero]))
            refine wpAnyH_take (i := 12) (v := ?vz21) (by simp only [List.getElem?_toArray, List.getElem?_cons_succ, List.getElem?_cons_zero]; rfl) (by kernel_rfl) (by kernel_rfl) (by kernel_rfl) (by exact fun _ _ _ h => h) (Or.inl ⟨by rfl, ?hyz21⟩) (by assumption) ?restz21
            case hyz21 => (intro w hSw; (try dsimp only at hSw); go_simp; try with_reducible rfl)
            ((try simp only [Act.put]); (try simp only [List.setIfInBounds_toArray]); (try simp only [List.set_cons_succ]); (try simp only [List.set_cons_zero]))
            refine wpAnyH_take (i := 13) (v := ?vz22) (by simp only [List.getElem?_toArray, List.getElem?_cons_succ, List.getElem?_cons_zero]; rfl) (by kernel_rfl) (by kernel_rfl) (by kernel_rfl) (by exact fun _ _ _ h => h) (Or.inl ⟨by rfl, ?hyz22⟩) (by assumption) ?restz22
            case hyz22 => (intro w hSw; (try dsimp only at hSw); go_simp; try with_reducible rfl)
            ((try simp only [Act.put]); (try simp only [List.setIfInBounds_toArray]); (try simp only [List.set_cons_succ]); (try simp only [List.set_cons_zero]))
            refine wpAnyH_ready (rs := [14]) (by kernel_rfl) (by simp) ?_
            refine AllReadyH.cons rfl (fun K hK => ?_) AllReadyH.nil
            go_simp
            refine hK.out _ _ (CS.out _ k5.out.fr) (fun hH4 => ?_)
            clear hK K
            ((try simp only [Act.put]); (try simp only [List.setIfInBounds_toArray]); (try simp only [List.set_cons_succ]); (try simp only [List.set_cons_zero]))
            refine wpAnyH_done (by kernel_rfl) ?_ _
            have HK5 := Lib.hid k5.out
            clear k1 k2 k3 k4 k5
            go_wp2_with fail
            go_roundw
            case rel => exact ⟨j + 1, _, _, _, _, by omega, by go_num, by rw [ls_more HR.out, rt_more HR.out]; exact HK5.out, HOK2.out⟩
            case measure => simp [intOf]; omega
          · go_simp
            refine hK.out _ _ (CS.out _ (I5.out.fr.trans (((Fr.refl No V5).alloc (.cells #[.int .i64 R] 3)).drew))) (fun hH2 => ?_)
            clear hK K
            ((try simp only [Act.put]); (try simp only [List.setIfInBounds_toArray]); (try simp only [List.set_cons_succ]); (try simp only [List.set_cons_zero]))
            refine wpAnyH_ready (rs := [4]) (by kernel_rfl) (by simp) ?_
            refine AllReadyH.cons rfl (fun K hK => ?_) AllReadyH.nil
            go_simp
            refine hK.out _ _ (by assumption) (fun hH1 => ?_)
            clear hK K
            ((try simp only [Act.put]); (try simp only [List.setIfInBounds_toArray]); (try simp only [List.set_cons_succ]); (try simp only [List.set_cons_zero]))
            refine wpAnyH_ready (rs := [11]) (by kernel_rfl) (by simp) ?_
            refine AllReadyH.cons rfl (fun K hK => ?_) AllReadyH.nil
            refine step_append_lies _ (by rfl) _ _ _ (by rfl) (w.heap.size + 1) 3 i0 (.int .i64 0) 1 8 Tryd.underlying28 hi0 hz0 hz1 hz2 (by rfl) (by decide) (.slice A9 j c9) j (((rt rs).take j).map (Value.int .i64)) (by rfl) ((I5.out.no (((Fr.refl No V5).alloc (.cells #[.int .i64 R] 3)).drew)).o3.2) ⟨_, 0, none⟩ 1 1 [.int .i64 R] (by first | rfl | (go_simp; done) | (simp; done)) (by rfl) (fun k u h => cell_one_new V5 _ _ k u h) (by simp [Value.oneCell']) (by decide) (by unfold maxLen; omega) (by omega) (I5.out.base (((Fr.refl No V5).alloc (.cells #[.int .i64 R] 3)).drew)) _ rfl ?_
            intro g4 cap4 w4 hown4 hgrow4 hat4 _
            obtain ⟨k1, k2, k3, k4, k5⟩ := I5.out.more3 (((Fr.refl No V5).alloc (.cells #[.int .i64 R] 3)).drew) hown4 hgrow4 hat4; clear hown4 hgrow4 hat4
            refine hK.out _ _ (CS.out _ k1) (fun hH3 => ?_)
            clear hK K
            ((try simp only [Act.put, List.getElem_toArray, List.getElem_cons_succ, List.getElem_cons_zero]); (try simp only [List.setIfInBounds_toArray]); (try simp only [List.set_cons_succ]); (try simp only [List.set_cons_zero]))
            refine wpAnyH_take (i := 12) (v := ?vz23) (by simp only [List.getElem?_toArray, List.getElem?_cons_succ, List.getElem?_cons_zero]; rfl) (by kernel_rfl) (by kernel_rfl) (by kernel_rfl) (by exact fun _ _ _ h => h) (Or.inl ⟨by rfl, ?hyz23⟩) (by assumption) ?restz23
            case hyz23 => (intro w hSw; (try dsimp only at hSw); go_simp; try with_reducible rfl)
            ((try simp only [Act.put]); (try simp only [List.setIfInBounds_toArray]); (try simp only [List.set_cons_succ]); (try simp only [List.set_cons_zero]))
            refine wpAnyH_take (i := 13) (v := ?vz24) (by simp only [List.getElem?_toArray, List.getElem?_cons_succ, List.getElem?_cons_zero]; rfl) (by kernel_rfl) (by kernel_rfl) (by kernel_rfl) (by exact fun _ _ _ h => h) (Or.inl ⟨by rfl, ?hyz24⟩) (by assumption) ?restz24
            case hyz24 => (intro w hSw; (try dsimp only at hSw); go_simp; try with_reducible rfl)
            ((try simp only [Act.put]); (try simp only [List.setIfInBounds_toArray]); (try simp only [List.set_cons_succ]); (try simp only [List.set_cons_zero]))
            refine wpAnyH_ready (rs := [14]) (by kernel_rfl) (by simp) ?_
            refine AllReadyH.cons rfl (fun K hK => ?_) AllReadyH.nil
            go_simp
            refine hK.out _ _ (CS.out _ k5.out.fr) (fun hH4 => ?_)
            clear hK K
            ((try simp only [Act.put]); (try simp only [List.setIfInBounds_toArray]); (try simp only [List.set_cons_succ]); (try simp only [List.set_cons_zero]))
            refine wpAnyH_done (by kernel_rfl) ?_ _
            have HK5 := Lib.hid k5.out
            clear k1 k2 k3 k4 k5
            go_wp2_with fail
            go_roundw
            case rel => exact ⟨j + 1, _, _, _, _, by omega, by go_num, by rw [ls_more HR.out, rt_more HR.out]; exact HK5.out, HOK2.out⟩
            case measure => simp [intOf]; omega
        · go_simp
          refine hK.out _ _ (CS.out _ (HI2.out.fr.trans (((Fr.refl No w2).alloc (.cells #[.int .i64 L] 3)).drew))) (fun hH2 => ?_)
          clear hK K
          ((try simp only [Act.put]); (try simp only [List.setIfInBounds_toArray]); (try simp only [List.set_cons_succ]); (try simp only [List.set_cons_zero]))
          refine wpAnyH_ready (rs := [4]) (by kernel_rfl) (by simp) ?_
          refine AllReadyH.cons rfl (fun K hK => ?_) AllReadyH.nil
          go_simp
          refine hK.out _ _ (by assumption) (fun hH1 => ?_)
          clear hK K
          ((try simp only [Act.put]); (try simp only [List.setIfInBounds_toArray]); (try simp only [List.set_cons_succ]); (try simp only [List.set_cons_zero]))
          refine wpAnyH_ready (rs := [11]) (by kernel_rfl) (by simp) ?_
          refine AllReadyH.cons rfl (fun K hK => ?_) AllReadyH.nil
          refine step_append_lies _ (by rfl) _ _ _ (by rfl) (w.heap.size + 1) 3 i0 (.int .i64 0) 1 8 Tryd.underlying28 hi0 hz0 hz1 hz2 (by rfl) (by decide) (.slice A8 j c8) j (((ls rs).take j).map (Value.int .i64)) (by rfl) ((HI2.out.no (((Fr.refl No w2).alloc (.cells #[.int .i64 L] 3)).drew)).o2.2) ⟨_, 0, none⟩ 1 1 [.int .i64 L] (by first | rfl | (go_simp; done) | (simp; done)) (by rfl) (fun k u h => cell_one_new w2 _ _ k u h) (by simp [Value.oneCell']) (by decide) (by unfold maxLen; omega) (by omega) (HI2.out.base (((Fr.refl No w2).alloc (.cells #[.int .i64 L] 3)).drew)) _ rfl ?_
          intro g4 cap4 w4 hown4 hgrow4 hat4 _
          obtain ⟨k1, k2, k3, k4, k5⟩ := HI2.out.more2 (((Fr.refl No w2).alloc (.cells #[.int .i64 L] 3)).drew) hown4 hgrow4 hat4; clear hown4 hgrow4 hat4
          refine hK.out _ _ (CS.out _ k1) (fun hH3 => ?_)
          clear hK K
          ((try simp only [Act.put, List.getElem_toArray, List.getElem_cons_succ, List.getElem_cons_zero]); (try simp only [List.setIfInBounds_toArray]); (try simp only [List.set_cons_succ]); (try simp only [List.set_cons_zero]))
          refine wpAnyH_take (i := 12) (v := ?vz25) (by simp only [List.getElem?_toArray, List.getElem?_cons_succ, List.getElem?_cons_zero]; rfl) (by kernel_rfl) (by kernel_rfl) (by kernel_rfl) (by exact fun _ _ _ h => h) (Or.inl ⟨by rfl, ?hyz25⟩) (by assumption) ?restz25
          case hyz25 => (intro w hSw; (try dsimp only at hSw); go_simp; try with_reducible rfl)
          ((try simp only [Act.put]); (try simp only [List.setIfInBounds_toArray]); (try simp only [List.set_cons_succ]); (try simp only [List.set_cons_zero]))
          refine wpAnyH_take (i := 13) (v := ?vz26) (by simp only [List.getElem?_toArray, List.getElem?_cons_succ, List.getElem?_cons_zero]; rfl) (by kernel_rfl) (by kernel_rfl) (by kernel_rfl) (by exact fun _ _ _ h => h) (Or.inl ⟨by rfl, ?hyz26⟩) (by assumption) ?restz26
          case hyz26 => (intro w hSw; (try dsimp only at hSw); go_simp; try with_reducible rfl)
          ((try simp only [Act.put]); (try simp only [List.setIfInBounds_toArray]); (try simp only [List.set_cons_succ]); (try simp only [List.set_cons_zero]))
          refine wpAnyH_ready (rs := [14]) (by kernel_rfl) (by simp) ?_
          refine AllReadyH.cons rfl (fun K hK => ?_) AllReadyH.nil
          go_simp
          refine hK.out _ _ (CS.out _ k5.out.fr) (fun hH4 => ?_)
          clear hK K
          ((try simp only [Act.put]); (try simp only [List.setIfInBounds_toArray]); (try simp only [List.set_cons_succ]); (try simp only [List.set_cons_zero]))
          refine wpAnyH_done (by kernel_rfl) ?_ _
          have k6 := k5.out
          clear k1 k2 k3 k4 k5
          obtain ⟨V5, hV5⟩ : ∃ V5, V5 = w4.setCell ⟨w.heap.size, 2, none⟩ (.slice (some ⟨g4, 0, none⟩) (j + 1) cap4) := ⟨_, rfl⟩
          rw [← hV5] at k6
          have I5 := Lib.hid k6
          have p3 : V5.cell? ⟨w.heap.size, 3, none⟩ = some (.slice A9 j c9) := (k6.blk.cell 3).trans rfl
          have lQ5 := k6.blk.lt
          obtain ⟨d0, d1⟩ := CS.out V5 k6.fr
          have l5 := block_lt d0
          have HV5 := Lib.hid hV5
          clear k6 hV5 p2
          go_wp2_with fail
          rw [← HV5.out]
          clear HV5
          refine wp_region_held_drew (S := fun w' => w'.cell? ⟨g, o + j * 3, none⟩ = some (.int .i64 L) ∧ w'.cell? ⟨g, o + j * 3 + 1, none⟩ = some (.int .i64 R)) (by kernel_rfl) ?hS (fun hHeld => ?_)
          case hS => exact CS.out _ (I5.out.fr.trans ((Fr.refl No _).drew))
          refine wpAnyH_take (i := 0) (v := ?vz27) (by simp only [List.getElem?_toArray, List.getElem?_cons_zero]; rfl) (by kernel_rfl) (by kernel_rfl) (by kernel_rfl) (by exact fun _ _ _ h => h) (Or.inl ⟨by rfl, ?hyz27⟩) (by assumption) ?restz27
          case hyz27 => (intro w hSw; (try dsimp only at hSw); go_simp; try with_reducible rfl)
          ((try simp only [Act.put]); (try simp only [List.setIfInBounds_toArray]); (try simp only [List.set_cons_succ]); (try simp only [List.set_cons_zero]))
          refine wpAnyH_take (i := 1) (v := ?vz28) (by simp only [List.getElem?_toArray, List.getElem?_cons_succ, List.getElem?_cons_zero]; rfl) (by kernel_rfl) (by kernel_rfl) (by kernel_rfl) (by exact fun _ _ _ h => h) (Or.inl ⟨by rfl, ?hyz28⟩) (by assumption) ?restz28
          case hyz28 => (intro w hSw; (try dsimp only at hSw); go_simp; try with_reducible rfl)
          ((try simp only [Act.put]); (try simp only [List.setIfInBounds_toArray]); (try simp only [List.set_cons_succ]); (try simp only [List.set_cons_zero]))
          refine wpAnyH_take (i := 2) (v := ?vz29) (by simp only [List.getElem?_toArray, List.getElem?_cons_succ, List.getElem?_cons_zero]; rfl) (by kernel_rfl) (by kernel_rfl) (by kernel_rfl) (by exact fun _ _ _ h => h) (Or.inl ⟨by rfl, ?hyz29⟩) (by assumption) ?restz29
          case hyz29 => (intro w hSw; (try dsimp only at hSw); go_simp; try with_reducible rfl)
          ((try simp only [Act.put]); (try simp only [List.setIfInBounds_toArray]); (try simp only [List.set_cons_succ]); (try simp only [List.set_cons_zero]))
          refine wpAnyH_take (i := 3) (v := ?vz30) (by simp only [List.getElem?_toArray, List.getElem?_cons_succ, List.getElem?_cons_zero]; rfl) (by kernel_rfl) (by kernel_rfl) (by kernel_rfl) (by exact fun _ _ _ h => h) (Or.inl ⟨by rfl, ?hyz30⟩) (by assumption) ?restz30
          case hyz30 => (intro w hSw; (try dsimp only at hSw); go_simp; try with_reducible rfl)
          ((try simp only [Act.put]); (try simp only [List.setIfInBounds_toArray]); (try simp only [List.set_cons_succ]); (try simp only [List.set_cons_zero]))
          refine wpAnyH_take (i := 5) (v := ?vz31) (by simp only [List.getElem?_toArray, List.getElem?_cons_succ, List.getElem?_cons_zero]; rfl) (by kernel_rfl) (by kernel_rfl) (by kernel_rfl) (by exact fun _ _ _ h => h) (Or.inl ⟨by rfl, ?hyz31⟩) (by assumption) ?restz31
          case hyz31 => (intro w hSw; (try dsimp only at hSw); go_simp; try with_reducible rfl)
          ((try simp only [Act.put]); (try simp only [List.setIfInBounds_toArray]); (try simp only [List.set_cons_succ]); (try simp only [List.set_cons_zero]))
          refine wpAnyH_take (i := 6) (v := ?vz32) (by simp only [List.getElem?_toArray, List.getElem?_cons_succ, List.getElem?_cons_zero]; rfl) (by kernel_rfl) (by kernel_rfl) (by kernel_rfl) (by exact fun _ _ _ h => h) (Or.inl ⟨by rfl, ?hyz32⟩) (by assumption) ?restz32
          case hyz32 => (intro w hSw; (try dsimp only at hSw); go_simp; try with_reducible rfl)
          ((try simp only [Act.put]); (try simp only [List.setIfInBounds_toArray]); (try simp only [List.set_cons_succ]); (try simp only [List.set_cons_zero]))
          refine wpAnyH_take (i := 7) (v := ?vz33) (by simp only [List.getElem?_toArray, List.getElem?_cons_succ, List.getElem?_cons_zero]; rfl) (by kernel_rfl) (by kernel_rfl) (by kernel_rfl) (by exact fun _ _ _ h => h) (Or.inl ⟨by rfl, ?hyz33⟩) (by assumption) ?restz33
          case hyz33 => (intro w hSw; (try dsimp only at hSw); go_simp; try with_reducible rfl)
          ((try simp only [Act.put]); (try simp only [List.setIfInBounds_toArray]); (try simp only [List.set_cons_succ]); (try simp only [List.set_cons_zero]))
          refine wpAnyH_take (i := 8) (v := ?vz34) (by simp only [List.getElem?_toArray, List.getElem?_cons_succ, List.getElem?_cons_zero]; rfl) (by kernel_rfl) (by kernel_rfl) (by kernel_rfl) (by exact fun _ _ _ h => h) (Or.inl ⟨by rfl, ?hyz34⟩) (by assumption) ?restz34
          case hyz34 => (intro w hSw; (try dsimp only at hSw); go_simp; try with_reducible rfl)
          ((try simp only [Act.put]); (try simp only [List.setIfInBounds_toArray]); (try simp only [List.set_cons_succ]); (try simp only [List.set_cons_zero]))
          refine wpAnyH_take (i := 9) (v := ?vz35) (by simp only [List.getElem?_toArray, List.getElem?_cons_succ, List.getElem?_cons_zero]; rfl) (by kernel_rfl) (by kernel_rfl) (by kernel_rfl) (by exact fun _ _ _ h => h) (Or.inl ⟨by rfl, ?hyz35⟩) (by assumption) ?restz35
          case hyz35 => (intro w hSw; (try dsimp only at hSw); go_simp; try with_reducible rfl)
          ((try simp only [Act.put]); (try simp only [List.setIfInBounds_toArray]); (try simp only [List.set_cons_succ]); (try simp only [List.set_cons_zero]))
          refine wpAnyH_ready (rs := [4, 10]) (by kernel_rfl) (by simp) ?_
          refine AllReadyH.cons rfl (fun K hK => ?_) (AllReadyH.cons rfl (fun K hK => ?_) AllReadyH.nil)
          · go_simp
            refine hK.out _ _ (by assumption) (fun hH1 => ?_)
            clear hK K
            ((try simp only [Act.put]); (try simp only [List.setIfInBounds_toArray]); (try simp only [List.set_cons_succ]); (try simp only [List.set_cons_zero]))
            refine wpAnyH_ready (rs := [10]) (by kernel_rfl) (by simp) ?_
            refine AllReadyH.cons rfl (fun K hK => ?_) AllReadyH.nil
            go_simp
            refine hK.out _ _ (CS.out _ (I5.out.fr.trans (((Fr.refl No V5).alloc (.cells #[.int .i64 R] 3)).drew))) (fun hH2 => ?_)
            clear hK K
            ((try simp only [Act.put]); (try simp only [List.setIfInBounds_toArray]); (try simp only [List.set_cons_succ]); (try simp only [List.set_cons_zero]))
            refine wpAnyH_ready (rs := [11]) (by kernel_rfl) (by simp) ?_
            refine AllReadyH.cons rfl (fun K hK => ?_) AllReadyH.nil
            refine step_append_lies _ (by rfl) _ _ _ (by rfl) (w.heap.size + 1) 3 i0 (.int .i64 0) 1 8 Tryd.underlying28 hi0 hz0 hz1 hz2 (by rfl) (by decide) (.slice A9 j c9) j (((rt rs).take j).map (Value.int .i64)) (by rfl) ((I5.out.no (((Fr.refl No V5).alloc (.cells #[.int .i64 R] 3)).drew)).o3.2) ⟨_, 0, none⟩ 1 1 [.int .i64 R] (by first | rfl | (go_simp; done) | (simp; done)) (by rfl) (fun k u h => cell_one_new V5 _ _ k u h) (by simp [Value.oneCell']) (by decide) (by unfold maxLen; omega) (by omega) (I5.out.base (((Fr.refl No V5).alloc (.cells #[.int .i64 R] 3)).drew)) _ rfl ?_
            intro g4 cap4 w4 hown4 hgrow4 hat4 _
            obtain ⟨k1, k2, k3, k4, k5⟩ := I5.out.more3 (((Fr.refl No V5).alloc (.cells #[.int .i64 R] 3)).drew) hown4 hgrow4 hat4; clear hown4 hgrow4 hat4
            refine hK.out _ _ (CS.out _ k1) (fun hH3 => ?_)
            clear hK K
            ((try simp only [Act.put, List.getElem_toArray, List.getElem_cons_succ, List.getElem_cons_zero]); (try simp only [List.setIfInBounds_toArray]); (try simp only [List.set_cons_succ]); (try simp only [List.set_cons_zero]))
            refine wpAnyH_take (i := 12) (v := ?vz36) (by simp only [List.getElem?_toArray, List.getElem?_cons_succ, List.getElem?_cons_zero]; rfl) (by kernel_rfl) (by kernel_rfl) (by kernel_rfl) (by exact fun _ _ _ h => h) (Or.inl ⟨by rfl, ?hyz36⟩) (by assumption) ?restz36
            case hyz36 => (intro w hSw; (try dsimp only at hSw); go_simp; try with_reducible rfl)
            ((try simp only [Act.put]); (try simp only [List.setIfInBounds_toArray]); (try simp only [List.set_cons_succ]); (try simp only [List.set_cons_zero]))
            refine wpAnyH_take (i := 13) (v := ?vz37) (by simp only [List.getElem?_toArray, List.getElem?_cons_succ, List.getElem?_cons_zero]; rfl) (by kernel_rfl) (by kernel_rfl) (by kernel_rfl) (by exact fun _ _ _ h => h) (Or.inl ⟨by rfl, ?hyz37⟩) (by assumption) ?restz37
            case hyz37 => (intro w hSw; (try dsimp only at hSw); go_simp; try with_reducible rfl)
            ((try simp only [Act.put]); (try simp only [List.setIfInBounds_toArray]); (try simp only [List.set_cons_succ]); (try simp only [List.set_cons_zero]))
            refine wpAnyH_ready (rs := [14]) (by kernel_rfl) (by simp) ?_
            refine AllReadyH.cons rfl (fun K hK => ?_) AllReadyH.nil
            go_simp
            refine hK.out _ _ (CS.out _ k5.out.fr) (fun hH4 => ?_)
            clear hK K
            ((try simp only [Act.put]); (try simp only [List.setIfInBounds_toArray]); (try simp only [List.set_cons_succ]); (try simp only [List.set_cons_zero]))
            refine wpAnyH_done (by kernel_rfl) ?_ _
            have HK5 := Lib.hid k5.out
            clear k1 k2 k3 k4 k5
            go_wp2_with fail
            go_roundw
            case rel => exact ⟨j + 1, _, _, _, _, by omega, by go_num, by rw [ls_more HR.out, rt_more HR.out]; exact HK5.out, HOK2.out⟩
            case measure => simp [intOf]; omega
          · go_simp
            refine hK.out _ _ (CS.out _ (I5.out.fr.trans (((Fr.refl No V5).alloc (.cells #[.int .i64 R] 3)).drew))) (fun hH2 => ?_)
            clear hK K
            ((try simp only [Act.put]); (try simp only [List.setIfInBounds_toArray]); (try simp only [List.set_cons_succ]); (try simp only [List.set_cons_zero]))
            refine wpAnyH_ready (rs := [4]) (by kernel_rfl) (by simp) ?_
            refine AllReadyH.cons rfl (fun K hK => ?_) AllReadyH.nil
            go_simp
            refine hK.out _ _ (by assumption) (fun hH1 => ?_)
            clear hK K
            ((try simp only [Act.put]); (try simp only [List.setIfInBounds_toArray]); (try simp only [List.set_cons_succ]); (try simp only [List.set_cons_zero]))
            refine wpAnyH_ready (rs := [11]) (by kernel_rfl) (by simp) ?_
            refine AllReadyH.cons rfl (fun K hK => ?_) AllReadyH.nil
            refine step_append_lies _ (by rfl) _ _ _ (by rfl) (w.heap.size + 1) 3 i0 (.int .i64 0) 1 8 Tryd.underlying28 hi0 hz0 hz1 hz2 (by rfl) (by decide) (.slice A9 j c9) j (((rt rs).take j).map (Value.int .i64)) (by rfl) ((I5.out.no (((Fr.refl No V5).alloc (.cells #[.int .i64 R] 3)).drew)).o3.2) ⟨_, 0, none⟩ 1 1 [.int .i64 R] (by first | rfl | (go_simp; done) | (simp; done)) (by rfl) (fun k u h => cell_one_new V5 _ _ k u h) (by simp [Value.oneCell']) (by decide) (by unfold maxLen; omega) (by omega) (I5.out.base (((Fr.refl No V5).alloc (.cells #[.int .i64 R] 3)).drew)) _ rfl ?_
            intro g4 cap4 w4 hown4 hgrow4 hat4 _
            obtain ⟨k1, k2, k3, k4, k5⟩ := I5.out.more3 (((Fr.refl No V5).alloc (.cells #[.int .i64 R] 3)).drew) hown4 hgrow4 hat4; clear hown4 hgrow4 hat4
            refine hK.out _ _ (CS.out _ k1) (fun hH3 => ?_)
            clear hK K
            ((try simp only [Act.put, List.getElem_toArray, List.getElem_cons_succ, List.getElem_cons_zero]); (try simp only [List.setIfInBounds_toArray]); (try simp only [List.set_cons_succ]); (try simp only [List.set_cons_zero]))
            refine wpAnyH_take (i := 12) (v := ?vz38) (by simp only [List.getElem?_toArray, List.getElem?_cons_succ, List.getElem?_cons_zero]; rfl) (by kernel_rfl) (by kernel_rfl) (by kernel_rfl) (by exact fun _ _ _ h => h) (Or.inl ⟨by rfl, ?hyz38⟩) (by assumption) ?restz38
            case hyz38 => (intro w hSw; (try dsimp only at hSw); go_simp; try with_reducible rfl)
            ((try simp only [Act.put]); (try simp only [List.setIfInBounds_toArray]); (try simp only [List.set_cons_succ]); (try simp only [List.set_cons_zero]))
            refine wpAnyH_take (i := 13) (v := ?vz39) (by simp only [List.getElem?_toArray, List.getElem?_cons_succ, List.getElem?_cons_zero]; rfl) (by kernel_rfl) (by kernel_rfl) (by kernel_rfl) (by exact fun _ _ _ h => h) (Or.inl ⟨by rfl, ?hyz39⟩) (by assumption) ?restz39
            case hyz39 => (intro w hSw; (try dsimp only at hSw); go_simp; try with_reducible rfl)
            ((try simp only [Act.put]); (try simp only [List.setIfInBounds_toArray]); (try simp only [List.set_cons_succ]); (try simp only [List.set_cons_zero]))
            refine wpAnyH_ready (rs := [14]) (by kernel_rfl) (by simp) ?_
            refine AllReadyH.cons rfl (fun K hK => ?_) AllReadyH.nil
            go_simp
            refine hK.out _ _ (CS.out _ k5.out.fr) (fun hH4 => ?_)
            clear hK K
            ((try simp only [Act.put]); (try simp only [List.setIfInBounds_toArray]); (try simp only [List.set_cons_succ]); (try simp only [List.set_cons_zero]))
            refine wpAnyH_done (by kernel_rfl) ?_ _
            have HK5 := Lib.hid k5.out
            clear k1 k2 k3 k4 k5
            go_wp2_with fail
            go_roundw
            case rel => exact ⟨j + 1, _, _, _, _, by omega, by go_num, by rw [ls_more HR.out, rt_more HR.out]; exact HK5.out, HOK2.out⟩
            case measure => simp [intOf]; omega
    · have hjl : j = rs.length := by omega
      have hjI : ¬ (j : Int) < (rs.length : Int) := by omega
      have h7 : (ls rs).take j = ls rs := List.take_of_length_le (by simp [ls]; omega)
      have h8 : (rt rs).take j = rt rs := List.take_of_length_le (by simp [rt]; omega)
      have h9 : rs.take j = rs := List.take_of_length_le (by omega)
      have hI := HI.out
      have hok := HOK.out
      rw [h7, h8] at hI
      rw [h9] at hok
      have HI2 := Lib.hid hI
      have HOK2 := Lib.hid hok
      have M1 : Hid (∀ W, Fr No wr W → Calls Tryd.prog 106 #[.slice N ns.length nc, .slice A8 j c8] W fun e w' => AnsB (∃ ms, ModelIs ns (ls rs) ms) W e w') := fun W hf => by
        have h := specModel W N A8 ns (ls rs) nc c8 hnc (HN.out.keep (HI2.out.fr.trans hf) (fun _ h => h.elim)) (OR.isl (HI2.out.o2.no hf)) (by omega) (by simp [ls]; omega) HNL.out
        rw [← HI2.out.o2.1] at h
        exact h
      have M2 : Hid (∀ W, Fr No wr W → Calls Tryd.prog 106 #[.slice N ns.length nc, .slice A9 j c9] W fun e w' => AnsB (∃ ms, ModelIs ns (rt rs) ms) W e w') := fun W hf => by
        have h := specModel W N A9 ns (rt rs) nc c9 hnc (HN.out.keep (HI2.out.fr.trans hf) (fun _ h => h.elim)) (OR.isl (HI2.out.o3.no hf)) (by omega) (by simp [rt]; omega) HNL.out
        rw [← HI2.out.o3.1] at h
        exact h
      have PP : Hid (∀ W, Fr No wr W → W.cell? ⟨w.heap.size, 2, none⟩ = some (.slice A8 j c8) ∧ W.cell? ⟨w.heap.size, 3, none⟩ = some (.slice A9 j c9) ∧ w.heap.size < W.heap.size) := fun W hf => by
        have h := (HI2.out.no hf).blk
        exact ⟨(h.cell 2).trans rfl, (h.cell 3).trans rfl, h.lt⟩
      obtain ⟨p2, p3, lQ⟩ := PP.out wr (Fr.refl _ _)
      have HJ := Lib.hid hjl
      clear hI hok h7 h8 h9 hjl
      go_wp2_with fail
      refine (M1.out _ (Fr.refl _ _)).mono ?_
      rintro e w2 ⟨b1, rfl, hb1, hf1⟩
      have HB1 := Lib.hid hb1
      have HF1 := Lib.hid hf1
      obtain ⟨p2, p3, lQ⟩ := PP.out w2 hf1
      clear hb1 hf1
      cases b1 with
      | false =>
        have HE : Hid (L6P N A nc rc ns rs w (.returned (.tuple #[Ptr w.heap.size, .bool false])) w2) := ⟨HI2.out.fr.trans HF1.out, _, false, rfl, fun h => (by cases h), fun _ ml mr h => by
          have := HB1.out.2 ⟨ml, h.ol⟩
          cases this⟩
        go_wp2_with fail
        go_ret2
        exact HE.out
      | true =>
        go_wp2_with fail
        refine (M2.out _ HF1.out).mono ?_
        rintro e w3 ⟨b2, rfl, hb2, hf2⟩
        have HE : Hid (L6P N A nc rc ns rs w (.returned (.tuple #[Ptr w.heap.size, .bool b2])) w3) := by
          refine ⟨(HI2.out.fr.trans HF1.out).trans hf2, _, b2, rfl, fun h => ?_, fun h ml mr hsp => ?_⟩
          · obtain ⟨ml, hml⟩ := HB1.out.1 (by first | rfl | trivial)
            obtain ⟨mr, hmr⟩ := hb2.1 h
            have hI3 := (HI2.out.no HF1.out).no hf2
            rw [HJ.out] at hI3
            exact ⟨A8, A9, c8, c9, hI3, rfl, ml, mr, hml, hmr, HOK2.out⟩
          · have := hb2.2 ⟨mr, hsp.or⟩
            rw [h] at this
            cases this
        clear hb2 hf2
        go_wp2_with fail
        go_ret2
        exact HE.out
end Go.Proofs.YtloecimlimoanaaDoor

/- Related, on the side of the model. -/
namespace Go.Proofs.YtloecimlimoanaaDoor
open Go.RowKit Go.ChangeMaps

theorem spAt_of {w w2 : World} {N A A8 A9 : Option Addr} {nc rc c8 c9 : Nat} {ns : List (List UInt8)} {rs : List (Int × Int × List Int)} {ml mr : List (Nat × Nat)} (hI : L6I w (.slice N ns.length nc) (.slice A rs.length rc) (ls rs) (rt rs) rs.length c8 rs.length c9 A8 A9 w2) (hsp : SpIs ns rs ml mr) (hN : SSl w N ns) (hA : Rels w A rs) :
    SpAt ⟨ns, ls rs, rt rs, ml, mr, pss rs, N, A, A8, A9, nc, rc, c8, c9⟩ w2 w.heap.size := by
  refine ⟨hsp.ol, hsp.or, ?_, ?_, hN.keep hI.fr (fun _ h => h.elim), OR.isl hI.o2, OR.isl hI.o3, fun j i l r h1 h2 => ?_⟩
  · have e1 := congrArg List.length hsp.ol.names
    have e2 := congrArg List.length hsp.ol.sizes
    simp [ls] at e1 e2
    simp [pss]; omega
  · have := hI.blk
    simpa [ls, rt, pss] using this
  · have h1 : ml[j]? = some (i, l) := h1
    have h2 : mr[j]? = some (i, r) := h2
    have eL : (ls rs)[j]? = some (l : Int) := by rw [hsp.ol.sizes, List.getElem?_map, h1]; rfl
    have eR : (rt rs)[j]? = some (r : Int) := by rw [hsp.or.sizes, List.getElem?_map, h2]; rfl
    obtain ⟨⟨L, R, ps⟩, hr⟩ : ∃ q, rs[j]? = some q := by
      rw [ls, List.getElem?_map] at eL
      cases h : rs[j]? with
      | none => rw [h] at eL; cases eL
      | some q => exact ⟨q, rfl⟩
    have eL : L = (l : Int) := by simpa [ls, hr] using eL
    have eR : R = (r : Int) := by simpa [rt, hr] using eR
    subst eL eR
    obtain ⟨g, o, B, c, e, c0, c1, c2, hi, hl⟩ := (hA.no hI.fr) j _ _ _ hr
    exact ⟨ps, g, o, B, c, by simp [pss, hr], e, c0, c1, c2, hi, hl, hsp.ok _ (List.mem_of_getElem? hr)⟩

set_option maxRecDepth 100000 in
set_option maxHeartbeats 4000000 in
theorem specRelated_any (w : World) (s : List UInt8) (N A : Option Addr) (nc rc : Nat) (ns : List (List UInt8)) (rs : List (Int × Int × List Int)) (x y : Int) (hs : s.length ≤ maxLen) (hnc : ns.length ≤ nc) (hN : SSl w N ns) (hA : Rels w A rs) (hl : ns.length ≤ 1048576) (hl' : rs.length ≤ 1048576) (hnl : ∀ x ∈ ns, x.length ≤ maxLen) :
    Calls Tryd.prog 14 #[S s, .slice N ns.length nc, .slice A rs.length rc, .int .i64 x, .int .i64 y] w fun e w' => RtdP s ns rs x y w e w' := by
  have TY := Lib.hid (type_any s w hs)
  have LS : Hid (∀ W, Fr No w W → Calls Tryd.prog 58 #[.slice N ns.length nc, .slice A rs.length rc] W fun e w' => L6P N A nc rc ns rs W e w') := fun W hf => l6sets_any W N A nc rc ns rs hnc (hN.keep hf (fun _ h => h.elim)) (hA.no hf) hl hl' hnl
  have NOT : Hid (∀ w', Fr No w w' → ¬ RelatedIs s ns rs x y → RtdP s ns rs x y w (.returned (.bool false)) w') := fun w' hf h => ⟨hf, false, rfl, fun h => (by cases h), fun h' => (h h').elim⟩
  have HN := Lib.hid hN
  have HA := Lib.hid hA
  clear hs hN hA hl hl' hnl hnc
  go_enter Tryd.func14, Tryd.ntmps14
  go_wp2_with fail
  refine TY.out.mono ?_
  rintro e w1 ⟨hf1, ⟨t, TA, tc, hi, rfl, hsl⟩ | ⟨a, TA, m, c, hno, rfl⟩⟩
  · have HI := Lib.hid hi
    have hfa : Fr No w1 (w1.alloc (.cells #[S t.atom, .slice TA t.kids.len tc] 82)) := (Fr.refl _ _).alloc _
    have hbt := Blk.new w1 82 #[S t.atom, .slice TA t.kids.len tc]
    have HF1 := Lib.hid hf1
    have HFA := Lib.hid hfa
    have HBT := Lib.hid hbt
    have HSL := Lib.hid hsl
    clear hf1 hfa hbt hsl hi TY
    go_wp2_with fail
    refine (LS.out _ (HF1.out.trans HFA.out)).mono ?_
    generalize hW : w1.alloc (.cells #[S t.atom, .slice TA t.kids.len tc] 82) = W at *
    rintro e w2 ⟨hf2, Q, b, rfl, hb1, hb0⟩
    have HFW := Lib.hid ((HF1.out.trans HFA.out).trans hf2)
    cases b with
    | false =>
      have HE := Lib.hid (NOT.out w2 HFW.out (fun ⟨_, ml, mr, _, _, _, _, _, h, _⟩ => hb0 rfl ml mr h))
      clear hf2 hb1 hb0
      go_wp2_with fail
      go_ret
      exact HE.out
    | true =>
      obtain ⟨A8, A9, c8, c9, hI, rfl, ml, mr, hsp⟩ := hb1 rfl
      clear hb1 hb0
      have HFW0 := Lib.hid (HF1.out.trans HFA.out)
      have hSP := spAt_of hI hsp (HN.out.keep HFW0.out (fun _ h => h.elim)) (HA.out.no HFW0.out)
      have hlets : t.lets := HI.out.2.1
      have hkn : ∀ μ, t.kn μ = t.cnt μ := fun μ => by have := HI.out.2.2; unfold Ty.kn; rw [if_pos (by omega)]
      have HSl : Hid (∀ W', Fr No w2 W' → Sl W' (fun b => b < W'.heap.size) TA t.kids) := fun W' hf => by
        have hft := (HFA.out.trans hf2).trans hf
        exact (HSL.out.fr (fun b hb => hb.2) hft).mono (fun b hb => Nat.lt_of_lt_of_le hb.2 hft.size) (fun _ _ => rfl)
      obtain ⟨cl, hcl⟩ : ∃ z, z = cntI (szs ml) t := ⟨_, rfl⟩
      obtain ⟨cr, hcr⟩ : ∃ z, z = cntI (szs mr) t := ⟨_, rfl⟩
      have CTL : Hid (∀ W', Fr No w2 W' → Calls Tryd.prog 60 #[.agg #[S t.atom, .slice TA t.kids.len tc], .slice N ns.length nc, .slice A8 (ls rs).length c8] W' fun e w' => e = .returned (.int .i64 cl) ∧ Fr No W' w') := fun W' hf => by
        have h := ct_any ns (ls rs) ml hsp.ol t hlets W' (fun b => b < W'.heap.size) TA tc N A8 nc c8 (fun b hb => hb) (HSl.out W' hf) (hSP.fr hf).nam (hSP.fr hf).lef
        rwa [← hcl] at h
      have CTR : Hid (∀ W', Fr No w2 W' → Calls Tryd.prog 60 #[.agg #[S t.atom, .slice TA t.kids.len tc], .slice N ns.length nc, .slice A9 (rt rs).length c9] W' fun e w' => e = .returned (.int .i64 cr) ∧ Fr No W' w') := fun W' hf => by
        have h := ct_any ns (rt rs) mr hsp.or t hlets W' (fun b => b < W'.heap.size) TA tc N A9 nc c9 (fun b hb => hb) (HSl.out W' hf) (hSP.fr hf).nam (hSP.fr hf).rig
        rwa [← hcr] at h
      have PP : Hid (∀ W', Fr No w2 W' → W'.cell? ⟨w1.heap.size, 0, none⟩ = some (S t.atom) ∧ W'.cell? ⟨w1.heap.size, 1, none⟩ = some (.slice TA t.kids.len tc) ∧ W'.cell? ⟨W.heap.size, 2, none⟩ = some (.slice A8 (ls rs).length c8) ∧ W'.cell? ⟨W.heap.size, 3, none⟩ = some (.slice A9 (rt rs).length c9) ∧ W.heap.size < W'.heap.size ∧ w1.heap.size < W'.heap.size) := fun W' hf => by
        have h1 := (HBT.out.fr hf2 (fun h => h)).fr hf (fun h => h)
        have h2 := (hSP.fr hf).blk
        exact ⟨(h1.cell 0).trans rfl, (h1.cell 1).trans rfl, (h2.cell 2).trans rfl, (h2.cell 3).trans rfl, h2.lt, h1.lt⟩
      have BD : Hid (-1 ≤ cl ∧ cl ≤ 4096 ∧ -1 ≤ cr ∧ cr ≤ 4096) := by
        have h1 : -1 ≤ cl ∧ cl ≤ 4096 := by
          rw [hcl]
          cases h : t.cnt (szs ml) with
          | none => rw [cntI_none h]; omega
          | some c => rw [cntI_some h]; have := t.cnt_bounds hsp.ol.sz c h; omega
        have h2 : -1 ≤ cr ∧ cr ≤ 4096 := by
          rw [hcr]
          cases h : t.cnt (szs mr) with
          | none => rw [cntI_none h]; omega
          | some c => rw [cntI_some h]; have := t.cnt_bounds hsp.or.sz c h; omega
        exact ⟨h1.1, h1.2, h2⟩
      have NIN : Hid (¬ (0 ≤ x ∧ x ≤ cl - 1) ∨ ¬ (0 ≤ y ∧ y ≤ cr - 1) → ¬ RelatedIs s ns rs x y) := by
        rintro h ⟨t', ml', mr', d, d', xn, yn, g1, g2, g3, g4, g5, g6, g7, g8, _⟩
        have e := g1.unique HI.out
        subst e
        have e := g2.ol.unique hsp.ol
        subst e
        have e := g2.or.unique hsp.or
        subst e
        rw [hkn] at g3 g4
        rw [cntI_some g3] at hcl
        rw [cntI_some g4] at hcr
        rcases h with h | h
        · exact h ⟨by omega, by omega⟩
        · exact h ⟨by omega, by omega⟩
      have hwl : IntKind.i64.wrap (cl - 1) = cl - 1 := IntWalk.i64_in _ (by have := BD.out; omega)
      have hwr : IntKind.i64.wrap (cr - 1) = cr - 1 := IntWalk.i64_in _ (by have := BD.out; omega)
      have hfd : Fr No w2 w2.drew := (Fr.refl _ _).drew
      obtain ⟨b0, b1, p2, p3, lQ, lT⟩ := PP.out w2 (Fr.refl _ _)
      have HSP := Lib.hid hSP
      have HSS := Lib.hid hsp
      have HKN := Lib.hid hkn
      have HCL := Lib.hid (And.intro hcl hcr)
      have HLT := Lib.hid hlets
      clear hSP hsp hkn hcl hcr hlets hI hf2
      by_cases hx : 0 ≤ x ∧ x ≤ cl - 1
      · have INX : Hid (∀ V, Calls Tryd.prog 59 #[.int .i64 x, .int .i64 0, .int .i64 (cl - 1)] V fun e w' => e = .returned (.bool true) ∧ V = w') := fun V => by
          have h := in_any V x 0 (cl - 1)
          rwa [decide_eq_true hx] at h
        by_cases hy : 0 ≤ y ∧ y ≤ cr - 1
        · have INY : Hid (∀ V, Calls Tryd.prog 59 #[.int .i64 y, .int .i64 0, .int .i64 (cr - 1)] V fun e w' => e = .returned (.bool true) ∧ V = w') := fun V => by
            have h := in_any V y 0 (cr - 1)
            rwa [decide_eq_true hy] at h
          obtain ⟨c, hc⟩ : ∃ c, t.cnt (szs ml) = some c := by
            cases h : t.cnt (szs ml) with
            | none => have := HCL.out.1; rw [cntI_none h] at this; omega
            | some c => exact ⟨c, rfl⟩
          obtain ⟨c', hc'⟩ : ∃ c', t.cnt (szs mr) = some c' := by
            cases h : t.cnt (szs mr) with
            | none => have := HCL.out.2; rw [cntI_none h] at this; omega
            | some c => exact ⟨c, rfl⟩
          have ecl := HCL.out.1
          have ecr := HCL.out.2
          rw [cntI_some hc] at ecl
          rw [cntI_some hc'] at ecr
          obtain ⟨xN, rfl⟩ : ∃ xN : Nat, x = xN := ⟨x.toNat, by omega⟩
          obtain ⟨yN, rfl⟩ : ∃ yN : Nat, y = yN := ⟨y.toNat, by omega⟩
          have hxl : xN < c := by omega
          have hyl : yN < c' := by omega
          obtain ⟨bb, hbb⟩ : ∃ bb, relT (szs ml) (szs mr) (rhoL mr (pss rs)) t xN yN = bb := ⟨_, rfl⟩
          have RE : Hid (∀ W', Fr No w2 W' → Calls Tryd.prog 61 #[Ptr W.heap.size, .agg #[S t.atom, .slice TA t.kids.len tc], .int .i64 xN, .int .i64 yN] W' fun e w' => e = .returned (.bool bb) ∧ Fr No W' w') := fun W' hf => by
            have h := re_any ⟨ns, ls rs, rt rs, ml, mr, pss rs, N, A, A8, A9, nc, rc, c8, c9⟩ (rhoL mr (pss rs)) (fun j i l r ps h1 h2 h3 x y => by rw [rhoL_at HSS.out.or.nodup h2 h3]) t HLT.out W' W.heap.size TA tc xN yN c c' (HSP.out.fr hf) (HSl.out W' hf) hc hc' hxl hyl
            rwa [hbb] at h
          have HE : Hid (∀ w', Fr No w2 w' → RtdP s ns rs xN yN w (.returned (.bool bb)) w') := fun w' hf => ⟨HFW.out.trans hf, bb, rfl, by
            rw [relatedIs_iff HI.out HSS.out (by rw [HKN.out]; exact hc) (by rw [HKN.out]; exact hc')]
            constructor
            · intro h
              subst h
              exact ⟨xN, yN, rfl, rfl, hxl, hyl, hbb⟩
            · rintro ⟨xn, yn, q1, q2, q3, q4, q5⟩
              have q1 : xN = xn := by omega
              have q2 : yN = yn := by omega
              subst q1 q2
              rw [← hbb]; exact q5⟩
          clear hc hc' ecl ecr hxl hyl hbb hx hy
          go_wp2_with fail
          go_region_held3 (fun w' => w'.cell? ⟨w1.heap.size, 0, none⟩ = some (S t.atom) ∧ w'.cell? ⟨w1.heap.size, 1, none⟩ = some (.slice TA t.kids.len tc) ∧ w'.cell? ⟨W.heap.size, 2, none⟩ = some (.slice A8 (ls rs).length c8) ∧ w'.cell? ⟨W.heap.size, 3, none⟩ = some (.slice A9 (rt rs).length c9)) (go_keep)
            (first | (go_at_call 60; first | (((with_reducible refine (CTL.out _ hfd).mono ?_); rintro e w4 ⟨rfl, hf4⟩; have HF4 := Lib.hid (hfd.trans hf4); have hf4' := hfd.trans hf4; obtain ⟨b0, b1, p2, p3, lQ, lT⟩ := PP.out w4 hf4'; clear hf4)) | (((with_reducible refine (CTR.out _ hf4').mono ?_); rintro e w5 ⟨rfl, hf5⟩; have hf5' := hf4'.trans hf5; have HF5 := Lib.hid hf5'; obtain ⟨b0, b1, p2, p3, lQ, lT⟩ := PP.out w5 hf5'; clear hf5))) | (go_at_call 59; first | ((with_reducible refine (INX.out _).mono ?_); rintro e wx ⟨rfl, rfl⟩) | ((with_reducible refine (INY.out _).mono ?_); rintro e wx ⟨rfl, rfl⟩)) | (go_at_call 61; ((with_reducible refine (RE.out _ hf5').mono ?_); rintro e w6 ⟨rfl, hf6⟩; have HF6 := Lib.hid (hf5'.trans hf6); obtain ⟨b0, b1, p2, p3, lQ, lT⟩ := PP.out w6 HF6.out; clear hf6)))
          all_goals (go_wp2_with fail; go_ret; exact HE.out _ (by first | exact HF6.out.drew | exact HF6.out))
        · have INY : Hid (∀ V, Calls Tryd.prog 59 #[.int .i64 y, .int .i64 0, .int .i64 (cr - 1)] V fun e w' => e = .returned (.bool false) ∧ V = w') := fun V => by
            have h := in_any V y 0 (cr - 1)
            rwa [decide_eq_false hy] at h
          have HE : Hid (∀ w', Fr No w2 w' → RtdP s ns rs x y w (.returned (.bool false)) w') := fun w' hf => NOT.out w' (HFW.out.trans hf) (NIN.out (.inr hy))
          clear hx hy
          go_wp2_with fail
          refine wp_region_held_drew (S := (fun w' => w'.cell? ⟨w1.heap.size, 0, none⟩ = some (S t.atom) ∧ w'.cell? ⟨w1.heap.size, 1, none⟩ = some (.slice TA t.kids.len tc) ∧ w'.cell? ⟨W.heap.size, 2, none⟩ = some (.slice A8 (ls rs).length c8) ∧ w'.cell? ⟨W.heap.size, 3, none⟩ = some (.slice A9 (rt rs).length c9))) (by kernel_rfl) ?hS (fun hHeld => ?_)
          case hS => (first | exact (PP.out _ hfd).2 |> fun h => ⟨(PP.out _ hfd).1, h.1, h.2.1, h.2.2.1⟩ | (dsimp only; exact (PP.out _ hfd).2 |> fun h => ⟨(PP.out _ hfd).1, h.1, h.2.1, h.2.2.1⟩))
          refine wpAnyH_take (i := 0) (v := ?v0) (by simp only [List.getElem?_toArray, List.getElem?_cons_zero]; rfl) (by kernel_rfl) (by kernel_rfl) (by kernel_rfl) (by exact fun _ _ _ h => h) (Or.inl ⟨by rfl, ?hy0⟩) (by assumption) ?rest0
          case hy0 => (intro w hSw; (try dsimp only at hSw); go_simp; try with_reducible rfl)
          try simp only [Act.put, List.setIfInBounds_toArray, List.set_cons_zero, List.set_cons_succ]
          refine wpAnyH_take (i := 1) (v := ?v1) (by simp only [List.getElem?_toArray, List.getElem?_cons_succ, List.getElem?_cons_zero]; rfl) (by kernel_rfl) (by kernel_rfl) (by kernel_rfl) (by exact fun _ _ _ h => h) (Or.inl ⟨by rfl, ?hy1⟩) (by assumption) ?rest1
          case hy1 => (intro w hSw; (try dsimp only at hSw); go_simp; try with_reducible rfl)
          try simp only [Act.put, List.setIfInBounds_toArray, List.set_cons_zero, List.set_cons_succ]
          refine wpAnyH_take (i := 2) (v := ?v2) (by simp only [List.getElem?_toArray, List.getElem?_cons_succ, List.getElem?_cons_zero]; rfl) (by kernel_rfl) (by kernel_rfl) (by kernel_rfl) (by exact fun _ _ _ h => h) (Or.inl ⟨by rfl, ?hy2⟩) (by assumption) ?rest2
          case hy2 => (intro w hSw; (try dsimp only at hSw); go_simp; try with_reducible rfl)
          try simp only [Act.put, List.setIfInBounds_toArray, List.set_cons_zero, List.set_cons_succ]
          refine wpAnyH_take (i := 3) (v := ?v3) (by simp only [List.getElem?_toArray, List.getElem?_cons_succ, List.getElem?_cons_zero]; rfl) (by kernel_rfl) (by kernel_rfl) (by kernel_rfl) (by exact fun _ _ _ h => h) (Or.inl ⟨by rfl, ?hy3⟩) (by assumption) ?rest3
          case hy3 => (intro w hSw; (try dsimp only at hSw); go_simp; try with_reducible rfl)
          try simp only [Act.put, List.setIfInBounds_toArray, List.set_cons_zero, List.set_cons_succ]
          refine wpAnyH_take (i := 4) (v := ?v4) (by simp only [List.getElem?_toArray, List.getElem?_cons_succ, List.getElem?_cons_zero]; rfl) (by kernel_rfl) (by kernel_rfl) (by kernel_rfl) (by exact fun _ _ _ h => h) (Or.inl ⟨by rfl, ?hy4⟩) (by assumption) ?rest4
          case hy4 => (intro w hSw; (try dsimp only at hSw); go_simp; try with_reducible rfl)
          try simp only [Act.put, List.setIfInBounds_toArray, List.set_cons_zero, List.set_cons_succ]
          refine wpAnyH_take (i := 5) (v := ?v5) (by simp only [List.getElem?_toArray, List.getElem?_cons_succ, List.getElem?_cons_zero]; rfl) (by kernel_rfl) (by kernel_rfl) (by kernel_rfl) (by exact fun _ _ _ h => h) (Or.inl ⟨by rfl, ?hy5⟩) (by assumption) ?rest5
          case hy5 => (intro w hSw; (try dsimp only at hSw); go_simp; try with_reducible rfl)
          try simp only [Act.put, List.setIfInBounds_toArray, List.set_cons_zero, List.set_cons_succ]
          refine wpAnyH_take (i := 6) (v := ?v6) (by simp only [List.getElem?_toArray, List.getElem?_cons_succ, List.getElem?_cons_zero]; rfl) (by kernel_rfl) (by kernel_rfl) (by kernel_rfl) (by exact fun _ _ _ h => h) (Or.inl ⟨by rfl, ?hy6⟩) (by assumption) ?rest6
          case hy6 => (intro w hSw; (try dsimp only at hSw); go_simp; try with_reducible rfl)
          try simp only [Act.put, List.setIfInBounds_toArray, List.set_cons_zero, List.set_cons_succ]
          refine wpAnyH_ready (rs := [7]) (by kernel_rfl) (by simp) ?_
          refine AllReadyH.cons rfl (fun K hK => ?_) AllReadyH.nil
          go_simp
          (with_reducible refine (CTL.out _ hfd).mono ?_); rintro e w4 ⟨rfl, hf4⟩; have HF4 := Lib.hid (hfd.trans hf4); have hf4' := hfd.trans hf4; obtain ⟨b0, b1, p2, p3, lQ, lT⟩ := PP.out w4 hf4'; clear hf4
          refine hK.out _ _ ?hS_1 (fun hHeld_1 => ?_)
          case hS_1 => exact ⟨b0, b1, p2, p3⟩
          clear hK K hHeld
          try simp only [Act.put, List.setIfInBounds_toArray, List.set_cons_zero, List.set_cons_succ]
          refine wpAnyH_take (i := 8) (v := ?v8) (by simp only [List.getElem?_toArray, List.getElem?_cons_succ, List.getElem?_cons_zero]; rfl) (by kernel_rfl) (by kernel_rfl) (by kernel_rfl) (by exact fun _ _ _ h => h) (Or.inl ⟨by rfl, ?hy8⟩) (by assumption) ?rest8
          case hy8 => (intro w hSw; (try dsimp only at hSw); go_simp; try with_reducible rfl)
          try simp only [Act.put, List.setIfInBounds_toArray, List.set_cons_zero, List.set_cons_succ]
          refine wpAnyH_ready (rs := [9]) (by kernel_rfl) (by simp) ?_
          refine AllReadyH.cons rfl (fun K hK => ?_) AllReadyH.nil
          go_simp
          (with_reducible refine (INX.out _).mono ?_); rintro e wx ⟨rfl, rfl⟩
          refine hK.out _ _ ?hS_2 (fun hHeld_2 => ?_)
          case hS_2 => exact ⟨b0, b1, p2, p3⟩
          clear hK K hHeld_1
          try simp only [Act.put, List.setIfInBounds_toArray, List.set_cons_zero, List.set_cons_succ]
          refine wpAnyH_take (i := 10) (v := ?v10) (by simp only [List.getElem?_toArray, List.getElem?_cons_succ, List.getElem?_cons_zero]; rfl) (by kernel_rfl) (by kernel_rfl) (by kernel_rfl) (by exact fun _ _ _ h => h) (Or.inl ⟨by rfl, ?hy10⟩) (by assumption) ?rest10
          case hy10 => (intro w hSw; (try dsimp only at hSw); go_simp; try with_reducible rfl)
          try simp only [Act.put, List.setIfInBounds_toArray, List.set_cons_zero, List.set_cons_succ]
          refine wpAnyH_take (i := 11) (v := ?v11) (by simp only [List.getElem?_toArray, List.getElem?_cons_succ, List.getElem?_cons_zero]; rfl) (by kernel_rfl) (by kernel_rfl) (by kernel_rfl) (by exact fun _ _ _ h => h) (Or.inl ⟨by rfl, ?hy11⟩) (by assumption) ?rest11
          case hy11 => (intro w hSw; (try dsimp only at hSw); go_simp; try with_reducible rfl)
          try simp only [Act.put, List.setIfInBounds_toArray, List.set_cons_zero, List.set_cons_succ]
          refine wpAnyH_take (i := 12) (v := ?v12) (by simp only [List.getElem?_toArray, List.getElem?_cons_succ, List.getElem?_cons_zero]; rfl) (by kernel_rfl) (by kernel_rfl) (by kernel_rfl) (by exact fun _ _ _ h => h) (Or.inl ⟨by rfl, ?hy12⟩) (by assumption) ?rest12
          case hy12 => (intro w hSw; (try dsimp only at hSw); go_simp; try with_reducible rfl)
          try simp only [Act.put, List.setIfInBounds_toArray, List.set_cons_zero, List.set_cons_succ]
          refine wpAnyH_take (i := 13) (v := ?v13) (by simp only [List.getElem?_toArray, List.getElem?_cons_succ, List.getElem?_cons_zero]; rfl) (by kernel_rfl) (by kernel_rfl) (by kernel_rfl) (by exact fun _ _ _ h => h) (Or.inl ⟨by rfl, ?hy13⟩) (by assumption) ?rest13
          case hy13 => (intro w hSw; (try dsimp only at hSw); go_simp; try with_reducible rfl)
          try simp only [Act.put, List.setIfInBounds_toArray, List.set_cons_zero, List.set_cons_succ]
          refine wpAnyH_take (i := 14) (v := ?v14) (by simp only [List.getElem?_toArray, List.getElem?_cons_succ, List.getElem?_cons_zero]; rfl) (by kernel_rfl) (by kernel_rfl) (by kernel_rfl) (by exact fun _ _ _ h => h) (Or.inl ⟨by rfl, ?hy14⟩) (by assumption) ?rest14
          case hy14 => (intro w hSw; (try dsimp only at hSw); go_simp; try with_reducible rfl)
          try simp only [Act.put, List.setIfInBounds_toArray, List.set_cons_zero, List.set_cons_succ]
          refine wpAnyH_take (i := 15) (v := ?v15) (by simp only [List.getElem?_toArray, List.getElem?_cons_succ, List.getElem?_cons_zero]; rfl) (by kernel_rfl) (by kernel_rfl) (by kernel_rfl) (by exact fun _ _ _ h => h) (Or.inl ⟨by rfl, ?hy15⟩) (by assumption) ?rest15
          case hy15 => (intro w hSw; (try dsimp only at hSw); go_simp; try with_reducible rfl)
          try simp only [Act.put, List.setIfInBounds_toArray, List.set_cons_zero, List.set_cons_succ]
          refine wpAnyH_take (i := 16) (v := ?v16) (by simp only [List.getElem?_toArray, List.getElem?_cons_succ, List.getElem?_cons_zero]; rfl) (by kernel_rfl) (by kernel_rfl) (by kernel_rfl) (by exact fun _ _ _ h => h) (Or.inl ⟨by rfl, ?hy16⟩) (by assumption) ?rest16
          case hy16 => (intro w hSw; (try dsimp only at hSw); go_simp; try with_reducible rfl)
          try simp only [Act.put, List.setIfInBounds_toArray, List.set_cons_zero, List.set_cons_succ]
          refine wpAnyH_take (i := 17) (v := ?v17) (by simp only [List.getElem?_toArray, List.getElem?_cons_succ, List.getElem?_cons_zero]; rfl) (by kernel_rfl) (by kernel_rfl) (by kernel_rfl) (by exact fun _ _ _ h => h) (Or.inl ⟨by rfl, ?hy17⟩) (by assumption) ?rest17
          case hy17 => (intro w hSw; (try dsimp only at hSw); go_simp; try with_reducible rfl)
          try simp only [Act.put, List.setIfInBounds_toArray, List.set_cons_zero, List.set_cons_succ]
          refine wpAnyH_ready (rs := [18]) (by kernel_rfl) (by simp) ?_
          refine AllReadyH.cons rfl (fun K hK => ?_) AllReadyH.nil
          go_simp
          (with_reducible refine (CTR.out _ hf4').mono ?_); rintro e w5 ⟨rfl, hf5⟩; have hf5' := hf4'.trans hf5; have HF5 := Lib.hid hf5'; obtain ⟨b0, b1, p2, p3, lQ, lT⟩ := PP.out w5 hf5'; clear hf5
          refine hK.out _ _ ?hS_3 (fun hHeld_3 => ?_)
          case hS_3 => exact ⟨b0, b1, p2, p3⟩
          clear hK K hHeld_2
          try simp only [Act.put, List.setIfInBounds_toArray, List.set_cons_zero, List.set_cons_succ]
          refine wpAnyH_take (i := 19) (v := ?v19) (by simp only [List.getElem?_toArray, List.getElem?_cons_succ, List.getElem?_cons_zero]; rfl) (by kernel_rfl) (by kernel_rfl) (by kernel_rfl) (by exact fun _ _ _ h => h) (Or.inl ⟨by rfl, ?hy19⟩) (by assumption) ?rest19
          case hy19 => (intro w hSw; (try dsimp only at hSw); go_simp; try with_reducible rfl)
          try simp only [Act.put, List.setIfInBounds_toArray, List.set_cons_zero, List.set_cons_succ]
          refine wpAnyH_ready (rs := [20]) (by kernel_rfl) (by simp) ?_
          refine AllReadyH.cons rfl (fun K hK => ?_) AllReadyH.nil
          go_simp
          (with_reducible refine (INY.out _).mono ?_); rintro e wx ⟨rfl, rfl⟩
          refine hK.out _ _ ?hS_4 (fun hHeld_4 => ?_)
          case hS_4 => exact ⟨b0, b1, p2, p3⟩
          clear hK K hHeld_3
          try simp only [Act.put, List.setIfInBounds_toArray, List.set_cons_zero, List.set_cons_succ]
          refine wpAnyH_take (i := 21) (v := ?v21) (by simp only [List.getElem?_toArray, List.getElem?_cons_succ, List.getElem?_cons_zero]; rfl) (by kernel_rfl) (by kernel_rfl) (by kernel_rfl) (by exact fun _ _ _ h => h) (Or.inl ⟨by rfl, ?hy21⟩) (by assumption) ?rest21
          case hy21 => (intro w hSw; (try dsimp only at hSw); go_simp; try with_reducible rfl)
          try simp only [Act.put, List.setIfInBounds_toArray, List.set_cons_zero, List.set_cons_succ]
          refine wpAnyH_take (i := 22) (v := ?v22) (by simp only [List.getElem?_toArray, List.getElem?_cons_succ, List.getElem?_cons_zero]; rfl) (by kernel_rfl) (by kernel_rfl) (by kernel_rfl) (by exact fun _ _ _ h => h) (Or.inl ⟨by rfl, ?hy22⟩) (by assumption) ?rest22
          case hy22 => (intro w hSw; (try dsimp only at hSw); go_simp; try with_reducible rfl)
          try simp only [Act.put, List.setIfInBounds_toArray, List.set_cons_zero, List.set_cons_succ]
          refine wpAnyH_take (i := 23) (v := undef) (by simp only [List.getElem?_toArray, List.getElem?_cons_succ, List.getElem?_cons_zero]; rfl) (by kernel_rfl) (by kernel_rfl) (by kernel_rfl) (by exact fun _ _ _ h => h) (Or.inr ⟨by rfl, rfl⟩) (by assumption) ?_
          try simp only [Act.put, List.setIfInBounds_toArray, List.set_cons_zero, List.set_cons_succ]
          refine wpAnyH_take (i := 24) (v := undef) (by simp only [List.getElem?_toArray, List.getElem?_cons_succ, List.getElem?_cons_zero]; rfl) (by kernel_rfl) (by kernel_rfl) (by kernel_rfl) (by exact fun _ _ _ h => h) (Or.inr ⟨by rfl, rfl⟩) (by assumption) ?_
          try simp only [Act.put, List.setIfInBounds_toArray, List.set_cons_zero, List.set_cons_succ]
          refine wpAnyH_take (i := 25) (v := undef) (by simp only [List.getElem?_toArray, List.getElem?_cons_succ, List.getElem?_cons_zero]; rfl) (by kernel_rfl) (by kernel_rfl) (by kernel_rfl) (by exact fun _ _ _ h => h) (Or.inr ⟨by rfl, rfl⟩) (by assumption) ?_
          try simp only [Act.put, List.setIfInBounds_toArray, List.set_cons_zero, List.set_cons_succ]
          refine wpAnyH_take (i := 26) (v := undef) (by simp only [List.getElem?_toArray, List.getElem?_cons_succ, List.getElem?_cons_zero]; rfl) (by kernel_rfl) (by kernel_rfl) (by kernel_rfl) (by exact fun _ _ _ h => h) (Or.inr ⟨by rfl, rfl⟩) (by assumption) ?_
          try simp only [Act.put, List.setIfInBounds_toArray, List.set_cons_zero, List.set_cons_succ]
          refine wpAnyH_take (i := 27) (v := undef) (by simp only [List.getElem?_toArray, List.getElem?_cons_succ, List.getElem?_cons_zero]; rfl) (by kernel_rfl) (by kernel_rfl) (by kernel_rfl) (by exact fun _ _ _ h => h) (Or.inr ⟨by rfl, rfl⟩) (by assumption) ?_
          try simp only [Act.put, List.setIfInBounds_toArray, List.set_cons_zero, List.set_cons_succ]
          refine wpAnyH_take (i := 28) (v := ?v28) (by simp only [List.getElem?_toArray, List.getElem?_cons_succ, List.getElem?_cons_zero]; rfl) (by kernel_rfl) (by kernel_rfl) (by kernel_rfl) (by exact fun _ _ _ h => h) (Or.inl ⟨by rfl, ?hy28⟩) (by assumption) ?rest28
          case hy28 => (intro w hSw; (try dsimp only at hSw); go_simp; try with_reducible rfl)
          try simp only [Act.put, List.setIfInBounds_toArray, List.set_cons_zero, List.set_cons_succ]
          refine wpAnyH_take (i := 29) (v := ?v29) (by simp only [List.getElem?_toArray, List.getElem?_cons_succ, List.getElem?_cons_zero]; rfl) (by kernel_rfl) (by kernel_rfl) (by kernel_rfl) (by exact fun _ _ _ h => h) (Or.inl ⟨by rfl, ?hy29⟩) (by assumption) ?rest29
          case hy29 => (intro w hSw; (try dsimp only at hSw); go_simp; try with_reducible rfl)
          try simp only [Act.put, List.setIfInBounds_toArray, List.set_cons_zero, List.set_cons_succ]
          refine wpAnyH_done (by kernel_rfl) ?_ _
          go_wp2_with fail
          go_ret
          exact HE.out _ HF5.out
      · have INX : Hid (∀ V, Calls Tryd.prog 59 #[.int .i64 x, .int .i64 0, .int .i64 (cl - 1)] V fun e w' => e = .returned (.bool false) ∧ V = w') := fun V => by
          have h := in_any V x 0 (cl - 1)
          rwa [decide_eq_false hx] at h
        have HE : Hid (∀ w', Fr No w2 w' → RtdP s ns rs x y w (.returned (.bool false)) w') := fun w' hf => NOT.out w' (HFW.out.trans hf) (NIN.out (.inl hx))
        clear hx
        go_wp2_with fail
        refine wp_region_held_drew (S := (fun w' => w'.cell? ⟨w1.heap.size, 0, none⟩ = some (S t.atom) ∧ w'.cell? ⟨w1.heap.size, 1, none⟩ = some (.slice TA t.kids.len tc) ∧ w'.cell? ⟨W.heap.size, 2, none⟩ = some (.slice A8 (ls rs).length c8) ∧ w'.cell? ⟨W.heap.size, 3, none⟩ = some (.slice A9 (rt rs).length c9))) (by kernel_rfl) ?hSc (fun hHeldc => ?_)
        case hSc => (first | exact (PP.out _ hfd).2 |> fun h => ⟨(PP.out _ hfd).1, h.1, h.2.1, h.2.2.1⟩ | (dsimp only; exact (PP.out _ hfd).2 |> fun h => ⟨(PP.out _ hfd).1, h.1, h.2.1, h.2.2.1⟩))
        refine wpAnyH_take (i := 0) (v := ?vc0) (by simp only [List.getElem?_toArray, List.getElem?_cons_zero]; rfl) (by kernel_rfl) (by kernel_rfl) (by kernel_rfl) (by exact fun _ _ _ h => h) (Or.inl ⟨by rfl, ?hyc0⟩) (by assumption) ?restc0
        case hyc0 => (intro w hSw; (try dsimp only at hSw); go_simp; try with_reducible rfl)
        try simp only [Act.put, List.setIfInBounds_toArray, List.set_cons_zero, List.set_cons_succ]
        refine wpAnyH_take (i := 1) (v := ?vc1) (by simp only [List.getElem?_toArray, List.getElem?_cons_succ, List.getElem?_cons_zero]; rfl) (by kernel_rfl) (by kernel_rfl) (by kernel_rfl) (by exact fun _ _ _ h => h) (Or.inl ⟨by rfl, ?hyc1⟩) (by assumption) ?restc1
        case hyc1 => (intro w hSw; (try dsimp only at hSw); go_simp; try with_reducible rfl)
        try simp only [Act.put, List.setIfInBounds_toArray, List.set_cons_zero, List.set_cons_succ]
        refine wpAnyH_take (i := 2) (v := ?vc2) (by simp only [List.getElem?_toArray, List.getElem?_cons_succ, List.getElem?_cons_zero]; rfl) (by kernel_rfl) (by kernel_rfl) (by kernel_rfl) (by exact fun _ _ _ h => h) (Or.inl ⟨by rfl, ?hyc2⟩) (by assumption) ?restc2
        case hyc2 => (intro w hSw; (try dsimp only at hSw); go_simp; try with_reducible rfl)
        try simp only [Act.put, List.setIfInBounds_toArray, List.set_cons_zero, List.set_cons_succ]
        refine wpAnyH_take (i := 3) (v := ?vc3) (by simp only [List.getElem?_toArray, List.getElem?_cons_succ, List.getElem?_cons_zero]; rfl) (by kernel_rfl) (by kernel_rfl) (by kernel_rfl) (by exact fun _ _ _ h => h) (Or.inl ⟨by rfl, ?hyc3⟩) (by assumption) ?restc3
        case hyc3 => (intro w hSw; (try dsimp only at hSw); go_simp; try with_reducible rfl)
        try simp only [Act.put, List.setIfInBounds_toArray, List.set_cons_zero, List.set_cons_succ]
        refine wpAnyH_take (i := 4) (v := ?vc4) (by simp only [List.getElem?_toArray, List.getElem?_cons_succ, List.getElem?_cons_zero]; rfl) (by kernel_rfl) (by kernel_rfl) (by kernel_rfl) (by exact fun _ _ _ h => h) (Or.inl ⟨by rfl, ?hyc4⟩) (by assumption) ?restc4
        case hyc4 => (intro w hSw; (try dsimp only at hSw); go_simp; try with_reducible rfl)
        try simp only [Act.put, List.setIfInBounds_toArray, List.set_cons_zero, List.set_cons_succ]
        refine wpAnyH_take (i := 5) (v := ?vc5) (by simp only [List.getElem?_toArray, List.getElem?_cons_succ, List.getElem?_cons_zero]; rfl) (by kernel_rfl) (by kernel_rfl) (by kernel_rfl) (by exact fun _ _ _ h => h) (Or.inl ⟨by rfl, ?hyc5⟩) (by assumption) ?restc5
        case hyc5 => (intro w hSw; (try dsimp only at hSw); go_simp; try with_reducible rfl)
        try simp only [Act.put, List.setIfInBounds_toArray, List.set_cons_zero, List.set_cons_succ]
        refine wpAnyH_take (i := 6) (v := ?vc6) (by simp only [List.getElem?_toArray, List.getElem?_cons_succ, List.getElem?_cons_zero]; rfl) (by kernel_rfl) (by kernel_rfl) (by kernel_rfl) (by exact fun _ _ _ h => h) (Or.inl ⟨by rfl, ?hyc6⟩) (by assumption) ?restc6
        case hyc6 => (intro w hSw; (try dsimp only at hSw); go_simp; try with_reducible rfl)
        try simp only [Act.put, List.setIfInBounds_toArray, List.set_cons_zero, List.set_cons_succ]
        refine wpAnyH_ready (rs := [7]) (by kernel_rfl) (by simp) ?_
        refine AllReadyH.cons rfl (fun K hK => ?_) AllReadyH.nil
        go_simp
        (with_reducible refine (CTL.out _ hfd).mono ?_); rintro e w4 ⟨rfl, hf4⟩; have HF4 := Lib.hid (hfd.trans hf4); have hf4' := hfd.trans hf4; obtain ⟨b0, b1, p2, p3, lQ, lT⟩ := PP.out w4 hf4'; clear hf4
        refine hK.out _ _ ?hSc_1 (fun hHeldc_1 => ?_)
        case hSc_1 => exact ⟨b0, b1, p2, p3⟩
        clear hK K hHeldc
        try simp only [Act.put, List.setIfInBounds_toArray, List.set_cons_zero, List.set_cons_succ]
        refine wpAnyH_take (i := 8) (v := ?vc8) (by simp only [List.getElem?_toArray, List.getElem?_cons_succ, List.getElem?_cons_zero]; rfl) (by kernel_rfl) (by kernel_rfl) (by kernel_rfl) (by exact fun _ _ _ h => h) (Or.inl ⟨by rfl, ?hyc8⟩) (by assumption) ?restc8
        case hyc8 => (intro w hSw; (try dsimp only at hSw); go_simp; try with_reducible rfl)
        try simp only [Act.put, List.setIfInBounds_toArray, List.set_cons_zero, List.set_cons_succ]
        refine wpAnyH_ready (rs := [9]) (by kernel_rfl) (by simp) ?_
        refine AllReadyH.cons rfl (fun K hK => ?_) AllReadyH.nil
        go_simp
        (with_reducible refine (INX.out _).mono ?_); rintro e wx ⟨rfl, rfl⟩
        refine hK.out _ _ ?hSc_2 (fun hHeldc_2 => ?_)
        case hSc_2 => exact ⟨b0, b1, p2, p3⟩
        clear hK K hHeldc_1
        try simp only [Act.put, List.setIfInBounds_toArray, List.set_cons_zero, List.set_cons_succ]
        refine wpAnyH_take (i := 10) (v := ?vc10) (by simp only [List.getElem?_toArray, List.getElem?_cons_succ, List.getElem?_cons_zero]; rfl) (by kernel_rfl) (by kernel_rfl) (by kernel_rfl) (by exact fun _ _ _ h => h) (Or.inl ⟨by rfl, ?hyc10⟩) (by assumption) ?restc10
        case hyc10 => (intro w hSw; (try dsimp only at hSw); go_simp; try with_reducible rfl)
        try simp only [Act.put, List.setIfInBounds_toArray, List.set_cons_zero, List.set_cons_succ]
        refine wpAnyH_take (i := 11) (v := undef) (by simp only [List.getElem?_toArray, List.getElem?_cons_succ, List.getElem?_cons_zero]; rfl) (by kernel_rfl) (by kernel_rfl) (by kernel_rfl) (by exact fun _ _ _ h => h) (Or.inr ⟨by rfl, rfl⟩) (by assumption) ?_
        try simp only [Act.put, List.setIfInBounds_toArray, List.set_cons_zero, List.set_cons_succ]
        refine wpAnyH_take (i := 12) (v := undef) (by simp only [List.getElem?_toArray, List.getElem?_cons_succ, List.getElem?_cons_zero]; rfl) (by kernel_rfl) (by kernel_rfl) (by kernel_rfl) (by exact fun _ _ _ h => h) (Or.inr ⟨by rfl, rfl⟩) (by assumption) ?_
        try simp only [Act.put, List.setIfInBounds_toArray, List.set_cons_zero, List.set_cons_succ]
        refine wpAnyH_take (i := 13) (v := undef) (by simp only [List.getElem?_toArray, List.getElem?_cons_succ, List.getElem?_cons_zero]; rfl) (by kernel_rfl) (by kernel_rfl) (by kernel_rfl) (by exact fun _ _ _ h => h) (Or.inr ⟨by rfl, rfl⟩) (by assumption) ?_
        try simp only [Act.put, List.setIfInBounds_toArray, List.set_cons_zero, List.set_cons_succ]
        refine wpAnyH_take (i := 14) (v := undef) (by simp only [List.getElem?_toArray, List.getElem?_cons_succ, List.getElem?_cons_zero]; rfl) (by kernel_rfl) (by kernel_rfl) (by kernel_rfl) (by exact fun _ _ _ h => h) (Or.inr ⟨by rfl, rfl⟩) (by assumption) ?_
        try simp only [Act.put, List.setIfInBounds_toArray, List.set_cons_zero, List.set_cons_succ]
        refine wpAnyH_take (i := 15) (v := undef) (by simp only [List.getElem?_toArray, List.getElem?_cons_succ, List.getElem?_cons_zero]; rfl) (by kernel_rfl) (by kernel_rfl) (by kernel_rfl) (by exact fun _ _ _ h => h) (Or.inr ⟨by rfl, rfl⟩) (by assumption) ?_
        try simp only [Act.put, List.setIfInBounds_toArray, List.set_cons_zero, List.set_cons_succ]
        refine wpAnyH_take (i := 16) (v := undef) (by simp only [List.getElem?_toArray, List.getElem?_cons_succ, List.getElem?_cons_zero]; rfl) (by kernel_rfl) (by kernel_rfl) (by kernel_rfl) (by exact fun _ _ _ h => h) (Or.inr ⟨by rfl, rfl⟩) (by assumption) ?_
        try simp only [Act.put, List.setIfInBounds_toArray, List.set_cons_zero, List.set_cons_succ]
        refine wpAnyH_take (i := 17) (v := undef) (by simp only [List.getElem?_toArray, List.getElem?_cons_succ, List.getElem?_cons_zero]; rfl) (by kernel_rfl) (by kernel_rfl) (by kernel_rfl) (by exact fun _ _ _ h => h) (Or.inr ⟨by rfl, rfl⟩) (by assumption) ?_
        try simp only [Act.put, List.setIfInBounds_toArray, List.set_cons_zero, List.set_cons_succ]
        refine wpAnyH_take (i := 18) (v := undef) (by simp only [List.getElem?_toArray, List.getElem?_cons_succ, List.getElem?_cons_zero]; rfl) (by kernel_rfl) (by kernel_rfl) (by kernel_rfl) (by exact fun _ _ _ h => h) (Or.inr ⟨by rfl, rfl⟩) (by assumption) ?_
        try simp only [Act.put, List.setIfInBounds_toArray, List.set_cons_zero, List.set_cons_succ]
        refine wpAnyH_take (i := 19) (v := undef) (by simp only [List.getElem?_toArray, List.getElem?_cons_succ, List.getElem?_cons_zero]; rfl) (by kernel_rfl) (by kernel_rfl) (by kernel_rfl) (by exact fun _ _ _ h => h) (Or.inr ⟨by rfl, rfl⟩) (by assumption) ?_
        try simp only [Act.put, List.setIfInBounds_toArray, List.set_cons_zero, List.set_cons_succ]
        refine wpAnyH_take (i := 20) (v := undef) (by simp only [List.getElem?_toArray, List.getElem?_cons_succ, List.getElem?_cons_zero]; rfl) (by kernel_rfl) (by kernel_rfl) (by kernel_rfl) (by exact fun _ _ _ h => h) (Or.inr ⟨by rfl, rfl⟩) (by assumption) ?_
        try simp only [Act.put, List.setIfInBounds_toArray, List.set_cons_zero, List.set_cons_succ]
        refine wpAnyH_take (i := 21) (v := ?vc21) (by simp only [List.getElem?_toArray, List.getElem?_cons_succ, List.getElem?_cons_zero]; rfl) (by kernel_rfl) (by kernel_rfl) (by kernel_rfl) (by exact fun _ _ _ h => h) (Or.inl ⟨by rfl, ?hyc21⟩) (by assumption) ?restc21
        case hyc21 => (intro w hSw; (try dsimp only at hSw); go_simp; try with_reducible rfl)
        try simp only [Act.put, List.setIfInBounds_toArray, List.set_cons_zero, List.set_cons_succ]
        refine wpAnyH_take (i := 22) (v := ?vc22) (by simp only [List.getElem?_toArray, List.getElem?_cons_succ, List.getElem?_cons_zero]; rfl) (by kernel_rfl) (by kernel_rfl) (by kernel_rfl) (by exact fun _ _ _ h => h) (Or.inl ⟨by rfl, ?hyc22⟩) (by assumption) ?restc22
        case hyc22 => (intro w hSw; (try dsimp only at hSw); go_simp; try with_reducible rfl)
        try simp only [Act.put, List.setIfInBounds_toArray, List.set_cons_zero, List.set_cons_succ]
        refine wpAnyH_take (i := 23) (v := undef) (by simp only [List.getElem?_toArray, List.getElem?_cons_succ, List.getElem?_cons_zero]; rfl) (by kernel_rfl) (by kernel_rfl) (by kernel_rfl) (by exact fun _ _ _ h => h) (Or.inr ⟨by rfl, rfl⟩) (by assumption) ?_
        try simp only [Act.put, List.setIfInBounds_toArray, List.set_cons_zero, List.set_cons_succ]
        refine wpAnyH_take (i := 24) (v := undef) (by simp only [List.getElem?_toArray, List.getElem?_cons_succ, List.getElem?_cons_zero]; rfl) (by kernel_rfl) (by kernel_rfl) (by kernel_rfl) (by exact fun _ _ _ h => h) (Or.inr ⟨by rfl, rfl⟩) (by assumption) ?_
        try simp only [Act.put, List.setIfInBounds_toArray, List.set_cons_zero, List.set_cons_succ]
        refine wpAnyH_take (i := 25) (v := undef) (by simp only [List.getElem?_toArray, List.getElem?_cons_succ, List.getElem?_cons_zero]; rfl) (by kernel_rfl) (by kernel_rfl) (by kernel_rfl) (by exact fun _ _ _ h => h) (Or.inr ⟨by rfl, rfl⟩) (by assumption) ?_
        try simp only [Act.put, List.setIfInBounds_toArray, List.set_cons_zero, List.set_cons_succ]
        refine wpAnyH_take (i := 26) (v := undef) (by simp only [List.getElem?_toArray, List.getElem?_cons_succ, List.getElem?_cons_zero]; rfl) (by kernel_rfl) (by kernel_rfl) (by kernel_rfl) (by exact fun _ _ _ h => h) (Or.inr ⟨by rfl, rfl⟩) (by assumption) ?_
        try simp only [Act.put, List.setIfInBounds_toArray, List.set_cons_zero, List.set_cons_succ]
        refine wpAnyH_take (i := 27) (v := undef) (by simp only [List.getElem?_toArray, List.getElem?_cons_succ, List.getElem?_cons_zero]; rfl) (by kernel_rfl) (by kernel_rfl) (by kernel_rfl) (by exact fun _ _ _ h => h) (Or.inr ⟨by rfl, rfl⟩) (by assumption) ?_
        try simp only [Act.put, List.setIfInBounds_toArray, List.set_cons_zero, List.set_cons_succ]
        refine wpAnyH_take (i := 28) (v := ?vc28) (by simp only [List.getElem?_toArray, List.getElem?_cons_succ, List.getElem?_cons_zero]; rfl) (by kernel_rfl) (by kernel_rfl) (by kernel_rfl) (by exact fun _ _ _ h => h) (Or.inl ⟨by rfl, ?hyc28⟩) (by assumption) ?restc28
        case hyc28 => (intro w hSw; (try dsimp only at hSw); go_simp; try with_reducible rfl)
        try simp only [Act.put, List.setIfInBounds_toArray, List.set_cons_zero, List.set_cons_succ]
        refine wpAnyH_take (i := 29) (v := ?vc29) (by simp only [List.getElem?_toArray, List.getElem?_cons_succ, List.getElem?_cons_zero]; rfl) (by kernel_rfl) (by kernel_rfl) (by kernel_rfl) (by exact fun _ _ _ h => h) (Or.inl ⟨by rfl, ?hyc29⟩) (by assumption) ?restc29
        case hyc29 => (intro w hSw; (try dsimp only at hSw); go_simp; try with_reducible rfl)
        try simp only [Act.put, List.setIfInBounds_toArray, List.set_cons_zero, List.set_cons_succ]
        refine wpAnyH_done (by kernel_rfl) ?_ _
        go_wp2_with fail
        go_ret
        exact HE.out _ HF4.out
  · have HNO : Hid (¬ RelatedIs s ns rs x y) := fun ⟨t, _, _, _, _, _, _, h, _⟩ => hno t h
    have HF1 := Lib.hid hf1
    clear hno hf1 TY
    go_wp2_with fail
    refine (LS.out _ (HF1.out.alloc _)).mono ?_
    rintro e w2 ⟨hf2, Q, b, rfl, _, _⟩
    have HE := Lib.hid (NOT.out w2 ((HF1.out.alloc _).trans hf2) HNO.out)
    clear hf2
    go_wp2_with fail
    go_ret
    exact HE.out
end Go.Proofs.YtloecimlimoanaaDoor
