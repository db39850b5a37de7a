/- The iterator over the redexes of a term. -/
import Derived.Test.YtnjgaenhjdjpfaaGreatDoorRf
namespace Go.Proofs.YtnjgaenhjdjpfaaGreatDoor
open Go.RowKit Go.ChangeMaps Go.Shelf

attribute [local go_sem] Oper.semAt_some

/-- what the iterator owns: what came in, and what is new since it began -/
abbrev TZ (T : Nat → Prop) (n1 : Nat) (W : World) : Nat → Prop := fun b => T b ∨ (n1 ≤ b ∧ b < W.heap.size)

/-- a place in memory, its term, and the redexes ahead -/
structure ZA (T : Nat → Prop) (n1 : Nat) (t : Ts) (W : World) (p : Nat) (c : Option Addr) (fs : List ZF) (h a : List UInt8) (d : Nat) (k : Ts) : Prop where
  tm : Tm W (TZ T n1 W) p h a d k
  zm : ZM W (TZ T n1 W) c fs
  ok : okZ t fs (.cons h a d k .nil)

theorem ZA.fr {S T : Nat → Prop} {n1 : Nat} {t : Ts} {W W' : World} {p : Nat} {c : Option Addr} {fs : List ZF} {h a : List UInt8} {d : Nat} {k : Ts} (hz : ZA T n1 t W p c fs h a d k) (hT : ∀ b, T b → b < W.heap.size ∧ ¬ S b) (hS : ∀ b, S b → b < n1) (hf : Fr S W W') : ZA T n1 t W' p c fs h a d k := by
  have h1 : ∀ b, TZ T n1 W b → TZ T n1 W' b := fun b hb => hb.imp (fun h => h) (fun h => ⟨h.1, Nat.lt_of_lt_of_le h.2 hf.size⟩)
  have h2 : ∀ b, TZ T n1 W b → W'.heap[b]? = W.heap[b]? := fun b hb => by
    rcases hb with hb | hb
    · exact hf.block b (hT b hb).1 (hT b hb).2
    · exact hf.block b hb.2 (fun hs => by have := hS b hs; omega)
  exact ⟨hz.tm.mono h1 h2, hz.zm.mono h1 h2, hz.ok⟩

theorem ZA.next {T : Nat → Prop} {n1 : Nat} {t : Ts} {W W' : World} {q : Nat} {c' : Option Addr} {fs' : List ZF} {h' a' : List UInt8} {d' : Nat} {k' : Ts} (hn : n1 ≤ W.heap.size) (hf : W.heap.size ≤ W'.heap.size) (h1 : Tm W' (TN (TZ T n1 W) W W') q h' a' d' k') (h2 : ZM W' (TN (TZ T n1 W) W W') c' fs') (h3 : okZ t fs' (.cons h' a' d' k' .nil)) : ZA T n1 t W' q c' fs' h' a' d' k' := by
  have h : ∀ b, TN (TZ T n1 W) W W' b → TZ T n1 W' b := fun b hb => by
    rcases hb with (hb | hb) | hb
    · exact .inl hb
    · exact .inr ⟨hb.1, Nat.lt_of_lt_of_le hb.2 hf⟩
    · exact .inr ⟨Nat.le_trans hn hb.1, hb.2⟩
  exact ⟨h1.mono h (fun _ _ => rfl), ZM.mono (w := W') (w' := W') h (fun _ _ => rfl) h2, h3⟩

/-- what a loop over the redexes asks of a round -/
structure ItJ (F : Fence) (n : Nat) (l : Nat) (S T : Nat → Prop) (n1 : Nat) (t : Ts) (J : Nat → World → Prop) (Jx : World → Prop) : Prop where
  keep : ∀ i W W', J i W → Fr (fun b => n1 ≤ b) W W' → J i W'
  size : ∀ i W, J i W → n1 ≤ W.heap.size
  S_lt : ∀ b, S b → b < n1
  T_lt : ∀ b, T b → b < n1 ∧ ¬ S b
  round : ∀ i W p c fs h a d k, J i W → ZA T n1 t W p c fs h a d k → befZ fs = i → rxT h k = true →
    YieldAt F (n - 1) Tryz.prog l #[.agg #[Ptr p, .pointer c]] W fun e W' => (e = .returned (.bool true) ∧ J (i + 1) W' ∧ Fr S W W') ∨ (e = .returned (.bool false) ∧ Jx W')

set_option maxRecDepth 100000 in
set_option maxHeartbeats 4000000 in
theorem redexes1_in (F : Fence) (n : Nat) (hfn : ∀ f, F.fn f) (hro : F.round = none) (hC : ∀ (m f : Nat) (args : Array Value) (w : World) (R : Ending → World → Prop), Calls Tryz.prog f args w R → CallsIn F m Tryz.prog f args w R) (hn : 2 ≤ n)
    (l B : Nat) (S T : Nat → Prop) (n1 : Nat) (t : Ts) (J : Nat → World → Prop) (Jx : World → Prop) (hJ : ItJ F n l S T n1 t J Jx)
    (w : World) (p : Nat) (h a : List UInt8) (d : Nat) (k : Ts) (ht : Tm w T p h a d k) (he : t = .cons h a d k .nil) (hw : WfT t) (hsz : t.size ≤ 300) (hbox : w.cell? ⟨B, 0, none⟩ = some (Ptr p)) (h0 : J 0 w) :
    CallsIn F n Tryz.prog 63 #[.func (.yield l) #[] #[], Ptr B] w fun e W' => (∃ v, e = .returned v) ∧ (J (cR t) W' ∨ Jx W') := by
  have hn1 : n1 ≤ w.heap.size := hJ.size 0 w h0
  have hTw : ∀ b, T b → b < w.heap.size := fun b hb => Nat.lt_of_lt_of_le (hJ.T_lt b hb).1 hn1
  obtain ⟨w1, hw1⟩ : ∃ w1, w1 = w.alloc (.cells #[Ptr p, .pointer none] 66) := ⟨_, rfl⟩
  have hf1 : Fr No w w1 := by rw [hw1]; exact (Fr.refl _ _).alloc _
  have b1 : Blk w1 w.heap.size 66 #[Ptr p, .pointer none] := by rw [hw1]; exact Blk.new _ _ _
  have hlB := block_lt hbox
  have hnx : ∀ {w w' : World}, Fr No w w' → Fr (fun b => n1 ≤ b) w w' := fun h => h.mono (fun _ _ h => h.elim)
  have START : Hid (J 0 w1 ∧ Blk w1 w.heap.size 66 #[Ptr p, .pointer none] ∧ ZA T n1 t w1 p none [] h a d k) := ⟨hJ.keep 0 w w1 h0 (hnx hf1), b1, ⟨ht.mono (fun b hb => .inl hb) (fun b hb => hf1.block b (hTw b hb) (fun h => h)), rfl, he.symm⟩⟩
  have HN1 := Lib.hid hn1
  have HNX : Hid (∀ w w' : World, Fr No w w' → Fr (fun b => n1 ≤ b) w w') := fun w w' h => hnx h
  have HJ := Lib.hid hJ
  have HW := Lib.hid hw
  have HSZ := Lib.hid hsz
  have HC := Lib.hid hC
  clear ht he hw hsz h0 hn1 hTw hf1 b1 hJ hC hnx
  subst hw1
  refine callsIn_of_wp Tryz.func63 rfl (hfn _) ?_ hro
  simp only [Tryz.ntmps63, List.size_toArray, List.length_cons, List.length_nil, Nat.reduceAdd, Nat.reduceSub, Array.replicate_succ, Array.replicate_zero, List.push_toArray, List.append_toArray, List.nil_append, List.cons_append]
  gi_wp2_with fail
  gi_loopg [3, 4] t.nods (fun g u v W => ∃ (i : Nat), J i W ∧ ((∃ Z p c fs h a d k, u = Ptr Z ∧ v = .bool true ∧ n1 ≤ Z ∧ Blk W Z 66 #[Ptr p, .pointer c] ∧ ZA T n1 t W p c fs h a d k ∧ befZ fs = i ∧ befN fs + g = t.nods) ∨ (v = .bool false ∧ i = cR t)))
  case atStart =>
    obtain ⟨s1, s2, s3⟩ := START.out
    exact ⟨0, s1, .inl ⟨_, p, none, [], h, a, d, k, rfl, rfl, HN1.out, s2, s3, rfl, by simp [befN]⟩⟩
  case round =>
    obtain ⟨i, hji, (⟨Z, pz, c, fs, hz, az, dz, kz, rfl, rfl, hZ, hbz, hza, hbi, hbn⟩ | ⟨rfl, rfl⟩)⟩ := hrel
    · have hwr : n1 ≤ wr.heap.size := HJ.out.size i wr hji
      have hTr : ∀ b, T b → b < wr.heap.size ∧ ¬ S b := fun b hb => ⟨Nat.lt_of_lt_of_le (HJ.out.T_lt b hb).1 hwr, (HJ.out.T_lt b hb).2⟩
      have hxw := okZ.wf HW.out hza.ok
      have c0 : wr.cell? ⟨Z, 0, none⟩ = some (Ptr pz) := (hbz.cell 0).trans rfl
      have c1 : wr.cell? ⟨Z, 1, none⟩ = some (.pointer c) := (hbz.cell 1).trans rfl
      have lz := hbz.lt
      have hgk : 1 ≤ gk := by
        have h1 := befN_lt hza.ok
        simp only [Ts.nods] at h1
        omega
      have hkl : kz.len ≤ 5000 := by
        have e : kz.len = kidsOf hz := hxw.1
        rw [e]
        have := kids_le hz
        omega
      have hTz : ∀ (W : World), n1 ≤ W.heap.size → ∀ b, TZ T n1 W b → b < W.heap.size := fun W hW b hb => hb.elim (fun h => Nat.lt_of_lt_of_le (HJ.out.T_lt b h).1 hW) (fun h => h.2)
      have IR : Hid (∀ m, CallsIn F m Tryz.prog 65 #[Ptr pz] wr fun e w' => e = .returned (.bool (rxT hz kz)) ∧ wr = w') := fun m => HC.out m _ _ _ _ (isRedex_any wr _ pz hz az dz kz hza.tm hxw hkl)
      have NX : Hid (∀ (W3 : World) (i3 : Nat), J i3 W3 → ZA T n1 t W3 pz c fs hz az dz kz → befZ fs + rx1 hz kz = i3 → ∀ m, CallsIn F m Tryz.prog 64 #[.agg #[Ptr pz, .pointer c]] (W3.alloc (.cells #[Ptr pz, .pointer c] 66)) fun e w5 =>
          ∃ v0 v1 bb, e = .returned (.tuple #[.agg #[.pointer v0, .pointer v1], .bool bb]) ∧ (w5.cell? ⟨W3.heap.size, 0, none⟩ = some (Ptr pz) ∧ w5.cell? ⟨W3.heap.size, 1, none⟩ = some (.pointer c) ∧ w5.frozen? ⟨W3.heap.size, 0, none⟩ = false ∧ w5.frozen? ⟨W3.heap.size, 1, none⟩ = false ∧ W3.heap.size < w5.heap.size) ∧
            Hid (∀ W6, W6 = (w5.setCell ⟨W3.heap.size, 0, none⟩ (.pointer v0)).setCell ⟨W3.heap.size, 1, none⟩ (.pointer v1) → ∃ g', g' < gk ∧ ∃ i, J i W6 ∧ ((∃ Z p c fs h a d k, Ptr W3.heap.size = Ptr Z ∧ Value.bool bb = .bool true ∧ n1 ≤ Z ∧ Blk W6 Z 66 #[Ptr p, .pointer c] ∧ ZA T n1 t W6 p c fs h a d k ∧ befZ fs = i ∧ befN fs + g' = t.nods) ∨ (Value.bool bb = .bool false ∧ i = cR t)))) := by
        intro W3 i3 h3 hz3 hb3 m
        refine HC.out m _ _ _ _ ?_
        have hn3 := HJ.out.size _ _ h3
        obtain ⟨W4, hW4⟩ : ∃ W4, W4 = W3.alloc (.cells #[Ptr pz, .pointer c] 66) := ⟨_, rfl⟩
        have hf4 : Fr No W3 W4 := by rw [hW4]; exact (Fr.refl _ _).alloc _
        have b4 : Blk W4 W3.heap.size 66 #[Ptr pz, .pointer c] := by rw [hW4]; exact Blk.new _ _ _
        rw [← hW4]
        have hTZ3 : ∀ b, TZ T n1 W3 b → b < W3.heap.size := hTz W3 hn3
        have hh4 : ∀ b, TZ T n1 W3 b → W4.heap[b]? = W3.heap[b]? := fun b hb => hf4.block b (hTZ3 b hb) (fun h => h)
        have hn4 : n1 ≤ W4.heap.size := Nat.le_trans hn3 hf4.size
        refine (next_any W4 (TZ T n1 W3) t pz hz az dz kz c fs (hz3.tm.mono (fun _ h => h) hh4) (ZM.mono (w := W3) (w' := W4) (fun _ h => h) hh4 hz3.zm) hz3.ok HW.out (by have := HSZ.out; omega) (fun b hb => Nat.lt_of_lt_of_le (hTZ3 b hb) hf4.size)).mono ?_
        have hne : ∀ (w5 : World), Fr No W4 w5 → ∀ v0 v1, Fr (fun b => n1 ≤ b) W3 ((w5.setCell ⟨W3.heap.size, 0, none⟩ v0).setCell ⟨W3.heap.size, 1, none⟩ v1) := fun w5 h5 v0 v1 =>
          ((HNX.out _ _ (hf4.trans h5)).setCell (p := ⟨W3.heap.size, 0, none⟩) (.inr (Nat.le_refl _)) v0).setCell (p := ⟨W3.heap.size, 1, none⟩) (.inr (Nat.le_refl _)) v1
        rintro e w5 (⟨q, c', fs', h', a', d', k', rfl, g1, g2, g3, g4, g5, g6⟩ | ⟨rfl, g1, g2⟩)
        · have b5 := b4.fr g1 (fun h => h)
          refine ⟨some ⟨q, 0, none⟩, c', true, rfl, ⟨(b5.cell 0).trans rfl, (b5.cell 1).trans rfl, b5.frozen 0, b5.frozen 1, b5.lt⟩, fun W6 hW6 => ?_⟩
          have b6 : Blk W6 W3.heap.size 66 #[Ptr q, .pointer c'] := by
            rw [hW6]
            exact Blk.set_ (Blk.set_ b5 0 (Ptr q)) 1 (.pointer c')
          have hz6 : W6.heap.size = w5.heap.size := by rw [hW6]; simp [World.setCell]
          have hs4 : W4.heap.size = W3.heap.size + 1 := by rw [hW4]; simp
          have hTT : ∀ b, TN (TZ T n1 W3) W4 w5 b → TZ T n1 W6 b := fun b hb => by
            rcases hb with (hb | hb) | hb
            · exact .inl hb
            · exact .inr ⟨hb.1, by have := g1.size; omega⟩
            · exact .inr ⟨by omega, by omega⟩
          have hHH : ∀ b, TN (TZ T n1 W3) W4 w5 b → W6.heap[b]? = w5.heap[b]? := fun b hb => by
            have hne : b ≠ W3.heap.size := by
              rcases hb with hb | hb
              · have := hTZ3 b hb; omega
              · omega
            rw [hW6, Below.heap_setCell _ ⟨W3.heap.size, 1, none⟩ _ _ hne, Below.heap_setCell _ ⟨W3.heap.size, 0, none⟩ _ _ hne]
          exact ⟨gk - 1, by omega, i3, HJ.out.keep _ _ _ h3 (by rw [hW6]; exact hne w5 g1 _ _), .inl ⟨_, q, c', fs', h', a', d', k', rfl, rfl, hn3, b6, ⟨g2.mono hTT hHH, ZM.mono (w := w5) (w' := W6) hTT hHH g3, g4⟩, by rw [g5, hb3], by rw [g6]; omega⟩⟩
        · have b5 := b4.fr g1 (fun h => h)
          refine ⟨none, none, false, rfl, ⟨(b5.cell 0).trans rfl, (b5.cell 1).trans rfl, b5.frozen 0, b5.frozen 1, b5.lt⟩, fun W6 hW6 => ?_⟩
          refine ⟨0, by omega, i3, HJ.out.keep _ _ _ h3 (by rw [hW6]; exact hne w5 g1 _ _), .inr ⟨rfl, ?_⟩⟩
          rw [← hb3, g2]
      by_cases hx : rxT hz kz = true
      · obtain ⟨fn, tmps, assign, body, hy, hR⟩ := HJ.out.round i wr pz c fs hz az dz kz hji hza hbi hx
        have h1x : rx1 hz kz = 1 := by simp [rx1, hx]
        have AFT : Hid (∀ W3, J (i + 1) W3 → Fr S wr W3 → (W3.cell? ⟨Z, 0, none⟩ = some (Ptr pz) ∧ W3.cell? ⟨Z, 1, none⟩ = some (.pointer c) ∧ Z < W3.heap.size) ∧ ZA T n1 t W3 pz c fs hz az dz kz) := fun W3 h3 hf3 => by
          have hb := hbz.fr hf3 (fun hs => by have := HJ.out.S_lt Z hs; omega)
          exact ⟨⟨(hb.cell 0).trans rfl, (hb.cell 1).trans rfl, hb.lt⟩, hza.fr hTr HJ.out.S_lt hf3⟩
        have HB3 : Hid (befZ fs + rx1 hz kz = i + 1) := by show _ = _; rw [h1x, hbi]
        rw [hx] at IR
        have hn' : 1 ≤ n := by omega
        clear hji hbz hza hbi hbn hwr hTr hxw hgk hkl hTz hx h1x START
        gi_wp2_with (gi_at_call 65; refine (IR.out _).mono ?_; rintro e w' ⟨rfl, rfl⟩)
        refine hR.mono ?_
        rintro e W3 (⟨rfl, h3, hk3⟩ | ⟨rfl, hx3⟩)
        · obtain ⟨⟨s0, s1, s2⟩, za3⟩ := AFT.out W3 h3 hk3
          have N3 : Hid _ := Lib.hid (NX.out W3 (i + 1) h3 za3 HB3.out)
          clear NX AFT hR hy IR h3 hk3 za3 c0 c1 lz
          gi_wp2_with (gi_at_call 64; refine (N3.out _).mono ?_; rintro e w5 ⟨v0, v1, bb, rfl, ⟨r0, r1, r2, r3, r4⟩, REL⟩)
          obtain ⟨g', hlt, hrel⟩ := REL.out _ rfl
          go_roundg g'
          case measure => exact hlt
          case rel => exact hrel
        · have HX3 := Lib.hid hx3
          clear NX AFT hR hy IR hx3
          gi_wp2_with fail
          refine bodyPost_ret (results_none rfl _ _ _) rfl ?_
          exact ⟨⟨_, rfl⟩, .inr HX3.out⟩
      · have h1x : rx1 hz kz = 0 := by simp [rx1, hx]
        have hxf : rxT hz kz = false := by simpa using hx
        rw [hxf] at IR
        have N3 : Hid _ := Lib.hid (NX.out wr i hji hza (by rw [h1x, hbi, Nat.add_zero]))
        have hn' : 1 ≤ n := by omega
        clear hji hbz hza hbi hbn hwr hTr hxw hgk hkl hTz hx h1x START NX hxf
        gi_wp2_with (first | (gi_at_call 65; refine (IR.out _).mono ?_; rintro e w' ⟨rfl, rfl⟩) | (gi_at_call 64; refine (N3.out _).mono ?_; rintro e w5 ⟨v0, v1, bb, rfl, ⟨r0, r1, r2, r3, r4⟩, REL⟩))
        obtain ⟨g', hlt, hrel⟩ := REL.out _ rfl
        go_roundg g'
        case measure => exact hlt
        case rel => exact hrel
    · gi_wp2_with fail
      go_end0
      exact ⟨⟨_, rfl⟩, .inl hji⟩
end Go.Proofs.YtnjgaenhjdjpfaaGreatDoor
