/- Types lifted by relations with names: lifting where a count is not known. · Related, on the side of the program. -/
import Derived.Test.YtloecimlimoanaaGreatDoorLof
import Derived.Test.YtloecimlimoanaaGreatDoorRdpm
/- Types lifted by relations with names: lifting where a count is not known. -/
namespace Go.Proofs.YtloecimlimoanaaGreatDoor
open Go.RowKit Go.ChangeMaps

section
variable {u ml mz1 mk1 c1 mz2 mk2 c2 Lb mr B0 : Nat} {own : Nat → Prop} {L : Nat → Ty → Prop} {Q : World → Prop} {μ ν : Nat → Option Nat} {ρ : Nat → Nat → Nat → Bool}

def NilP (ml mk1 mk2 : Nat) (w : World) (e : Ending) (w' : World) : Prop := e = .returned (.pointer none) ∧ Fr (Three ml mk1 mk2) w w'

set_option maxRecDepth 100000 in
set_option maxHeartbeats 4000000 in
theorem ofl_nil (hL : Lead u ml own L Q) (hO : LfOk ml mz1 mk1 mz2 mk2 mr own μ ν) (t : Ty) (w : World) (p : Nat) (hS : LfAt u ml mz1 mk1 c1 mz2 mk2 c2 Lb mr B0 L Q μ ν ρ w) (hp : L p t) (hn : t.kn μ = none ∨ t.kn ν = none) :
    Calls Tryz.prog 48 #[Ptr Lb, Ptr p] w fun e w' => NilP ml mk1 mk2 w e w' := by
  have A1 : Hid (Calls Tryz.prog 60 #[Ptr c1, Ptr p] w.drew fun e w' => ∃ gl : Option Addr, e = .returned (.pointer gl) ∧ Hid (SetV w' μ t (.pointer gl) ∧ LfAt u ml mz1 mk1 c1 mz2 mk2 c2 Lb mr B0 L Q μ ν ρ w' ∧ Fr (Three ml mk1 mk2) w w')) := by
    have hS0 := hS.no hL ((Fr.refl No w).drew)
    refine (ofs_any hL hO.ok1 t w.drew p hS0.a hp).mono ?_
    rintro e w' ⟨v, rfl, hv, hca, hf⟩
    obtain ⟨a, rfl⟩ := hv.ptr
    have hf0 : Fr (Three ml mk1 mk2) w.drew w' := hf.mono (fun k _ h => h.elim .inl (fun h => .inr (.inl h)))
    exact ⟨a, rfl, hv, hS0.left hL hO hca hf, ((Fr.refl _ w).drew).trans hf0⟩
  have B1 : Hid (∀ w2 gl, SetV w2 μ t (.pointer gl) → LfAt u ml mz1 mk1 c1 mz2 mk2 c2 Lb mr B0 L Q μ ν ρ w2 → Fr (Three ml mk1 mk2) w w2 → Calls Tryz.prog 60 #[Ptr c2, Ptr p] w2 fun e w' => ∃ gr : Option Addr, e = .returned (.pointer gr) ∧ Hid (SetV w' μ t (.pointer gl) ∧ SetV w' ν t (.pointer gr) ∧ LfAt u ml mz1 mk1 c1 mz2 mk2 c2 Lb mr B0 L Q μ ν ρ w' ∧ Fr (Three ml mk1 mk2) w w')) := by
    intro w2 gl hv1 hS2 hf2
    refine (ofs_any hL hO.ok2 t w2 p hS2.b hp).mono ?_
    rintro e w' ⟨v, rfl, hv, hcb, hf⟩
    obtain ⟨a, rfl⟩ := hv.ptr
    have hf0 : Fr (Three ml mk1 mk2) w2 w' := hf.mono (fun k _ h => h.elim .inl (fun h => .inr (.inr h)))
    exact ⟨a, rfl, hv1.keep (KeepS.fr hf0 fun b hb => .inl (hS2.maps hL b hb)), hv, hS2.right hL hO hcb hf, hf2.trans hf0⟩
  have LBC : Hid (∀ w', LfAt u ml mz1 mk1 c1 mz2 mk2 c2 Lb mr B0 L Q μ ν ρ w' → w'.cell? ⟨Lb, 1, none⟩ = some (Ptr c1) ∧ w'.cell? ⟨Lb, 2, none⟩ = some (Ptr c2) ∧ Lb < w'.heap.size) := fun w' h => ⟨(h.lb.cell 1).trans rfl, (h.lb.cell 2).trans rfl, h.lb.lt⟩
  obtain ⟨s1, s2, s3⟩ := LBC.out w hS
  have HN := Lib.hid hn
  clear hS hp hn
  go_enter Tryz.func48, Tryz.ntmps48
  go_wp2_with fail
  go_region_held3 (fun w' => w'.cell? ⟨Lb, 1, none⟩ = some (Ptr c1) ∧ w'.cell? ⟨Lb, 2, none⟩ = some (Ptr c2)) (go_keep)
    (first | (go_at_call 60; ((with_reducible refine A1.out.mono ?_); rintro e w2 ⟨gl, rfl, HA⟩; obtain ⟨t1, t2, t3⟩ := LBC.out w2 HA.out.2.1)) | (go_at_call 60; ((with_reducible refine (B1.out w2 gl HA.out.1 HA.out.2.1 HA.out.2.2).mono ?_); rintro e w3 ⟨gr, rfl, HC⟩; obtain ⟨r1, r2, r3⟩ := LBC.out w3 HC.out.2.2.1)))
  obtain ⟨hv1, hv2, _, hf3⟩ := HC.out
  have hP : Blk (w3.alloc (.cells #[.pointer gl, .pointer gr, .pointer none, .pointer none, .slice none 0 0] 57)) w3.heap.size 57 #[.pointer gl, .pointer gr, .pointer none, .pointer none, .slice none 0 0] := Blk.new _ _ _
  have hfa : Fr (Three ml mk1 mk2) w (w3.alloc (.cells #[.pointer gl, .pointer gr, .pointer none, .pointer none, .slice none 0 0] 57)) := hf3.alloc _
  have p0 := hP.cell 0
  have p1 := hP.cell 1
  have p2 := hP.lt
  have HE : Hid (NilP ml mk1 mk2 w (.returned (.pointer none)) (w3.alloc (.cells #[.pointer gl, .pointer gr, .pointer none, .pointer none, .slice none 0 0] 57))) := ⟨rfl, hfa⟩
  have HV := Lib.hid (And.intro hv1 hv2)
  clear hv1 hv2 hf3 hP hfa
  rcases hk1 : t.kn μ with _ | c
  · have e := HV.out.1.none_ hk1
    injection e with e
    subst e
    clear HV hk1 HC p0 p1
    go_wp2_with fail
    go_ret
    exact HE.out
  · obtain ⟨g, x, y, e, _⟩ := HV.out.1.some_ hk1
    injection e with e
    subst e
    have hk2 : t.kn ν = none := HN.out.resolve_left (by rw [hk1]; intro h; cases h)
    have e := HV.out.2.none_ hk2
    injection e with e
    subst e
    clear HV hk1 HC p0 p1
    go_wp2_with fail
    go_ret
    exact HE.out
end

/-- relations in memory -/
def Rels (w : World) (A : Option Addr) (rs : List (Int × Int × List Int)) : Prop := ∀ (j : Nat) (L R : Int) (ps : List Int), rs[j]? = some (L, R, ps) → ∃ (g o : Nat) (B : Option Addr) (c : Nat), A = some ⟨g, o, none⟩ ∧ w.cell? ⟨g, o + j * 3, none⟩ = some (.int .i64 L) ∧ w.cell? ⟨g, o + j * 3 + 1, none⟩ = some (.int .i64 R) ∧ w.cell? ⟨g, o + j * 3 + 2, none⟩ = some (.slice B ps.length c) ∧ ISl w B ps ∧ ps.length ≤ 2000000

theorem Rels.no {w w' : World} {A : Option Addr} {rs : List (Int × Int × List Int)} (h : Rels w A rs) (hf : Fr No w w') : Rels w' A rs := fun j L R ps hj => by
  obtain ⟨g, o, B, c, e, c0, c1, c2, hi, hl⟩ := h j L R ps hj
  exact ⟨g, o, B, c, e, (hf.cell (p := ⟨g, o + j * 3, none⟩) (block_lt c0) (fun h => h)).trans c0, (hf.cell (p := ⟨g, o + j * 3 + 1, none⟩) (block_lt c1) (fun h => h)).trans c1, (hf.cell (p := ⟨g, o + j * 3 + 2, none⟩) (block_lt c2) (fun h => h)).trans c2, hi.keep hf (fun _ h => h.elim), hl⟩

def ls (rs : List (Int × Int × List Int)) : List Int := rs.map fun r => r.1
def rt (rs : List (Int × Int × List Int)) : List Int := rs.map fun r => r.2.1
def pss (rs : List (Int × Int × List Int)) : List (List Int) := rs.map fun r => r.2.2

theorem ls_more {rs : List (Int × Int × List Int)} {j : Nat} {L R : Int} {ps : List Int} (h : rs[j]? = some (L, R, ps)) : (ls rs).take (j + 1) = (ls rs).take j ++ [L] := by
  rw [List.take_add_one]
  simp [ls, h]
theorem rt_more {rs : List (Int × Int × List Int)} {j : Nat} {L R : Int} {ps : List Int} (h : rs[j]? = some (L, R, ps)) : (rt rs).take (j + 1) = (rt rs).take j ++ [R] := by
  rw [List.take_add_one]
  simp [rt, h]

/-- relations with names, as two models have them -/
structure SpIs (ns : List (List UInt8)) (rs : List (Int × Int × List Int)) (ml mr : List (Nat × Nat)) : Prop where
  ol : ModelIs ns (ls rs) ml
  or : ModelIs ns (rt rs) mr
  ok : ∀ r ∈ rs, RelOk r.1 r.2.1 r.2.2

/-- what is related for each variable -/
def rhoL : List (Nat × Nat) → List (List Int) → Nat → Nat → Nat → Bool
  | (i, r) :: ms, ps :: LS, k, x, y => if i = k then memR r ps x y else rhoL ms LS k x y
  | _, _, _, _, _ => false

theorem rhoL_at : ∀ {mr : List (Nat × Nat)} {LS : List (List Int)}, (mr.map Prod.fst).Nodup → ∀ {j i r : Nat} {ps : List Int}, mr[j]? = some (i, r) → LS[j]? = some ps → rhoL mr LS i = memR r ps
  | [], _, _, j, _, _, _, h, _ => by simp at h
  | (i0, r0) :: ms, [], _, j, _, _, _, _, h => by simp at h
  | (i0, r0) :: ms, ps0 :: LS, hn, 0, i, r, ps, h, h' => by
    simp at h h'
    obtain ⟨rfl, rfl⟩ := h
    subst h'
    funext x y
    simp [rhoL]
  | (i0, r0) :: ms, ps0 :: LS, hn, j + 1, i, r, ps, h, h' => by
    simp at h h'
    rw [List.map_cons, List.nodup_cons] at hn
    have hne : i0 ≠ i := fun e => hn.1 (List.mem_map.2 ⟨(i, r), List.mem_of_getElem? h, e.symm⟩)
    have ih := rhoL_at hn.2 h h'
    funext x y
    simp only [rhoL, hne, if_false]
    rw [ih]

theorem Pool.not_mapg {w : World} {q m : Nat} {ps : List Nat} {D : List Ty} (hP : Pool w q m ps D) {g clk : Nat} {es : Array MapEntry} (hm : w.heap[g]? = some (.map es clk)) (_ : g ≠ m) : q ≠ g ∧ g ∉ ps := by
  refine ⟨hP.head.ne_map hm, fun hg => ?_⟩
  obtain ⟨i, hi, e⟩ := List.getElem_of_mem hg
  have hD : i < D.length := by have := hP.len; omega
  obtain ⟨x, y, h1, _⟩ := hP.node i D[i] g (List.getElem?_eq_getElem hD) (by rw [List.getElem?_eq_getElem hi, e])
  exact h1.ne_map hm rfl

/-- what readLifted answers -/
def RdlP (s : List UInt8) (ns : List (List UInt8)) (rs : List (Int × Int × List Int)) (w : World) (e : Ending) (w' : World) : Prop :=
  Fr No w w' ∧ ((∃ (t : Ty) (ml mr : List (Nat × Nat)) (c c' P : Nat) (F : Cach), Ty.Is s t ∧ SpIs ns rs ml mr ∧ t.kn (szs ml) = some c ∧ t.kn (szs mr) = some c' ∧ e = .returned (Ptr P) ∧ LtAt (szs ml) (szs mr) (rhoL mr (pss rs)) F No w' t P ∧ LC (szs ml) (szs mr) (rhoL mr (pss rs)) F No w' ∧ ∀ g, InF F g → w.heap.size ≤ g) ∨
    ((∀ (t : Ty) (ml mr : List (Nat × Nat)) (c c' : Nat), Ty.Is s t → SpIs ns rs ml mr → t.kn (szs ml) = some c → t.kn (szs mr) = some c' → False) ∧ e = .returned (.pointer none)))

/-- a row that is to get one more number: before, with the number in a block of its own, behind -/
inductive Ch where
  | start : Ch
  | built (k : Nat) : Ch
  | done (A : Option Addr) (n c : Nat) : Ch

def Chain (base H : Nat) (A : Option Addr) (n c : Nat) (xs : List Int) (x : Int) (V : World) : Ch → Prop
  | .start => OR V base A n c xs
  | .built k => OR V base A n c xs ∧ H ≤ k ∧ Blk V k 3 #[.int .i64 x]
  | .done A' n' c' => OR V base A' n' c' (xs ++ [x]) ∧ n' = n + 1 ∧ ∀ b, Own A' b → Own A b ∨ H ≤ b

theorem Chain.fr {base H : Nat} {A : Option Addr} {n c : Nat} {xs : List Int} {x : Int} {V V' : World} {T : Nat → Prop} {st : Ch} (h : Chain base H A n c xs x V st) (hf : Fr T V V') (hT : ∀ b, T b → b < H ∧ ¬ Own A b) : Chain base H A n c xs x V' st := by
  cases st with
  | start => exact OR.fr h hf (fun b ho ht => (hT b ht).2 ho)
  | built k => exact ⟨h.1.fr hf (fun b ho ht => (hT b ht).2 ho), h.2.1, h.2.2.fr hf (fun ht => by have := (hT k ht).1; have := h.2.1; omega)⟩
  | done A' n' c' => exact ⟨h.1.fr hf (fun b ho ht => (h.2.2 b ho).elim (hT b ht).2 (fun h => by have := (hT b ht).1; omega)), h.2.1, h.2.2⟩

theorem Chain.no {base H : Nat} {A : Option Addr} {n c : Nat} {xs : List Int} {x : Int} {V V' : World} {st : Ch} (h : Chain base H A n c xs x V st) (hf : Fr No V V') : Chain base H A n c xs x V' st := h.fr hf (fun _ h => h.elim)

theorem Chain.build {base H : Nat} {A : Option Addr} {n c : Nat} {xs : List Int} {x : Int} {V : World} {k : Nat} (h : Chain base H A n c xs x V .start) (hb : Blk V k 3 #[.int .i64 x]) (hk : H ≤ k) : Chain base H A n c xs x V (.built k) := ⟨h, hk, hb⟩

theorem Chain.row {base H : Nat} {A : Option Addr} {n c : Nat} {xs : List Int} {x : Int} {V : World} {k : Nat} (h : Chain base H A n c xs x V (.built k)) : V.ownsRow base 3 1 (.slice A n c) n (xs.map (Value.int .i64)) := h.1.2

theorem Chain.news {base H : Nat} {A : Option Addr} {n c : Nat} {xs : List Int} {x : Int} {V : World} {k : Nat} (h : Chain base H A n c xs x V (.built k)) : ∀ j u, [Value.int .i64 x][j]? = some u → V.cell? ((⟨k, 0, none⟩ : Addr).add j) = some u := fun j u hj => by
  rw [addr_add, h.2.2.cell (0 + j)]
  cases j with
  | zero => simpa using hj
  | succ j => simp at hj

theorem Chain.more {base H : Nat} {A : Option Addr} {n c : Nat} {xs : List Int} {x : Int} {V w1 : World} {k g cap : Nat} (h : Chain base H A n c xs x V (.built k)) (hH : H ≤ V.heap.size) (ho : w1.ownsRow base 3 1 (.slice (some ⟨g, 0, none⟩) (n + 1) cap) (n + 1) (xs.map (Value.int .i64) ++ [.int .i64 x])) (hg : V.grownBy w1 (Value.slice A n c).ownBlock) (hw : (Value.slice A n c).ownBlock = some g ∨ g = V.heap.size) :
    Fr (Own A) V w1 ∧ Chain base H A n c xs x w1 (.done (some ⟨g, 0, none⟩) (n + 1) cap) ∧ ∀ b, Own (some ⟨g, 0, none⟩) b → Own A b ∨ V.heap.size ≤ b := by
  obtain ⟨g', cap', e, hf, hor⟩ := or_more h.1 (Fr.refl No V) ho hg
  injection e with e1 e2 e3
  injection e1 with e1
  injection e1 with e1
  subst e1 e3
  have key : ∀ b, Own (some ⟨g, 0, none⟩) b → Own A b ∨ V.heap.size ≤ b := fun b hb => by
    obtain ⟨a, ha, hab⟩ := hb
    injection ha with ha
    subst ha
    have hab : g = b := hab
    subst hab
    rcases hw with hw | hw
    · left
      unfold Value.ownBlock at hw
      cases A with
      | none => cases hw
      | some a => exact ⟨a, rfl, by injection hw⟩
    · right; omega
  exact ⟨hf, ⟨hor, rfl, fun b hb => (key b hb).imp id (fun h => Nat.le_trans hH h)⟩, key⟩

theorem Chain.apart {wr V : World} {base : Nat} {A B A' B' : Option Addr} {n c n2 c2 m cp : Nat} {xs ys : List Int} {x : Int} (h8 : OR wr base B n2 c2 ys) (hap : ∀ b, Own A b → ¬ Own B b) (hA : Chain base wr.heap.size A n c xs x V (.done A' m cp)) (q3 : ∀ b, Own B' b → Own B b ∨ V.heap.size ≤ b) : ∀ b, Own A' b → ¬ Own B' b := fun b h1 h2 => by
  have b1 := (OR.bounds hA.1 h1).2
  rcases q3 b h2 with h | h
  · rcases hA.2.2 b h1 with h' | h'
    · exact hap b h' h
    · have := (OR.bounds h8 h).2; omega
  · omega


set_option maxRecDepth 100000 in
set_option maxHeartbeats 8000000 in
theorem readLifted_any (w : World) (s : List UInt8) (N A : Option Addr) (nc rc : Nat) (ns : List (List UInt8)) (rs : List (Int × Int × List Int)) (hs : s.length ≤ maxLen) (hN : SSl w N ns) (hA : Rels w A rs) (hl : ns.length ≤ 1048576) (hl' : rs.length ≤ 1048576) (hnl : ∀ x ∈ ns, x.length ≤ maxLen) (hT : TZt w) :
    Calls Tryz.prog 24 #[S s, .slice N ns.length nc, .slice A rs.length rc] w fun e w' => RdlP s ns rs w e w' := by
  obtain ⟨i0, hi0, hz0, hz1, hz2⟩ := info_parts info_int
  have hlI : (rs.length : Int) ≤ 1048576 := by omega
  have HN := Lib.hid hN
  have HA := Lib.hid hA
  have HT := Lib.hid hT
  have HNL := Lib.hid hnl
  obtain ⟨W0, hW0, hf0, ho7, ho8, hap⟩ : ∃ W, W = (w.alloc (.cells #[] 3)).alloc (.cells #[] 3) ∧ Fr No w W ∧ OR W w.heap.size (some ⟨w.heap.size, 0, none⟩) 0 0 [] ∧ OR W w.heap.size (some ⟨w.heap.size + 1, 0, none⟩) 0 0 [] ∧ ∀ b, Own (some ⟨w.heap.size, 0, none⟩) b → ¬ Own (some ⟨w.heap.size + 1, 0, none⟩) b :=
    ⟨_, rfl, ((Fr.refl No w).alloc _).alloc _, (or_new w).no ((Fr.refl No _).alloc _), OR.low (by have h := or_new (w.alloc (.cells #[] 3)); simpa using h) (Nat.le_succ _), fun b h1 h2 => by
      obtain ⟨a, ha, hb⟩ := h1
      obtain ⟨a', ha', hb'⟩ := h2
      injection ha with ha
      injection ha' with ha'
      subst ha ha'
      have hb : w.heap.size = b := hb
      have hb' : w.heap.size + 1 = b := hb'
      omega⟩
  have H0 := Lib.hid (And.intro (And.intro ho7 ho8) (And.intro hf0 hap))
  clear hN hA hT hnl hf0 ho7 ho8 hap
  go_enter Tryz.func24, Tryz.ntmps24
  go_wp2_with fail
  rw [← hW0]
  clear hW0
  go_loopw [7, 8, 27] (fun a7 a8 u wr => ∃ (j n7 c7 n8 c8 : Nat) (A7 A8 : Option Addr), j ≤ rs.length ∧ u = .int .i64 j ∧ a7 = .slice A7 n7 c7 ∧ a8 = .slice A8 n8 c8 ∧ Fr No w wr ∧ OR wr w.heap.size A7 n7 c7 ((ls rs).take j) ∧ OR wr w.heap.size A8 n8 c8 ((rt rs).take j) ∧ ∀ b, Own A7 b → ¬ Own A8 b) (fun _ _ u _ => rs.length - (intOf u).toNat)
  case atStart => exact ⟨0, 0, 0, 0, 0, _, _, Nat.zero_le _, rfl, rfl, rfl, H0.out.2.1, H0.out.1.1, H0.out.1.2, H0.out.2.2⟩
  case round =>
    obtain ⟨j, n7, c7, n8, c8, A7, A8, hj, rfl, rfl, rfl, hfr, ho7, ho8, hap⟩ := hrel
    have HFR := Lib.hid hfr
    have HO7 := Lib.hid ho7
    have HO8 := Lib.hid ho8
    have HAP := Lib.hid hap
    by_cases hlt : j < rs.length
    · have hjI : (j : Int) < (rs.length : Int) := by omega
      obtain ⟨⟨L, R, ps⟩, hr⟩ : ∃ r, rs[j]? = some r := ⟨_, List.getElem?_eq_getElem hlt⟩
      obtain ⟨g, o, B, cc, rfl, c0, c1, c2, _, _⟩ := (HA.out.no hfr) j L R ps hr
      have l0 := block_lt c0
      have hn7 : n7 = j := by rw [ho7.1]; simp [ls]; omega
      have hn8 : n8 = j := by rw [ho8.1]; simp [rt]; omega
      have HNN : Hid (n7 ≤ 1048576 ∧ n8 ≤ 1048576) := ⟨by omega, by omega⟩
      have n7I := HNN.out.1
      have n8I := HNN.out.2
      have hf4 : Fr No wr (wr.alloc (.cells #[.int .i64 L, .int .i64 R, .slice B ps.length cc] 27)) := (Fr.refl No wr).alloc _
      have hb4 := Blk.new wr 27 #[.int .i64 L, .int .i64 R, .slice B ps.length cc]
      have hz4 : (wr.alloc (.cells #[.int .i64 L, .int .i64 R, .slice B ps.length cc] 27)).heap.size = wr.heap.size + 1 := by simp
      obtain ⟨W4, hW4⟩ : ∃ W4, W4 = wr.alloc (.cells #[.int .i64 L, .int .i64 R, .slice B ps.length cc] 27) := ⟨_, rfl⟩
      rw [← hW4] at hf4 hb4 hz4
      have SS : Hid (∀ V, Fr (fun b => Own A7 b ∨ Own A8 b) W4 V → V.cell? ⟨wr.heap.size, 0, none⟩ = some (.int .i64 L) ∧ V.cell? ⟨wr.heap.size, 1, none⟩ = some (.int .i64 R)) := fun V hf => by
        have hb := hb4.fr hf (fun h => by
          rcases h with h | h
          · have := (OR.bounds HO7.out h).2; omega
          · have := (OR.bounds HO8.out h).2; omega)
        exact ⟨(hb.cell 0).trans rfl, (hb.cell 1).trans rfl⟩
      have FA : Hid (∀ b, Own A7 b → b < wr.heap.size ∧ ¬ Own A8 b) := fun b h => ⟨(OR.bounds HO7.out h).2, HAP.out b h⟩
      have FB : Hid (∀ b, Own A8 b → b < wr.heap.size ∧ ¬ Own A7 b) := fun b h => ⟨(OR.bounds HO8.out h).2, fun h' => HAP.out b h' h⟩
      have HA4 : Hid (Chain w.heap.size wr.heap.size A7 n7 c7 ((ls rs).take j) L W4 .start) := HO7.out.no hf4
      have HB4 : Hid (Chain w.heap.size wr.heap.size A8 n8 c8 ((rt rs).take j) R W4 .start) := HO8.out.no hf4
      have HWR : Hid (wr.heap.size ≤ W4.heap.size) := hf4.size
      have HBASE : Hid (w.heap.size ≤ W4.heap.size) := Nat.le_trans HFR.out.size hf4.size
      have HF4 := Lib.hid hf4
      have HR := Lib.hid hr
      have HW4 := Lib.hid hW4
      clear hfr ho7 ho8 hap hr hf4 hb4 hz4 hW4 hn7 hn8
      go_wp2_with fail
      rw [← HW4.out]
      clear HW4 c0 c1 c2
      rename_i Ks hKs
      suffices REST : Hid (∀ (k7 k8 g7 cp7 g8 cp8 : Nat) (V : World), Chain w.heap.size wr.heap.size A7 n7 c7 ((ls rs).take j) L V (.done (some ⟨g7, 0, none⟩) (n7 + 1) cp7) → Chain w.heap.size wr.heap.size A8 n8 c8 ((rt rs).take j) R V (.done (some ⟨g8, 0, none⟩) (n8 + 1) cp8) → Fr (fun b => Own A7 b ∨ Own A8 b) W4 V → (∀ b, Own (some ⟨g7, 0, none⟩) b → ¬ Own (some ⟨g8, 0, none⟩) b) → Ks { tmps := #[S s, Value.slice N ns.length nc, Value.slice (some { block := g, off := o }) rs.length rc, undef, undef, undef, Value.pointer none, Value.slice (some { block := g7, off := 0 }) (n7 + 1) cp7, Value.slice (some { block := g8, off := 0 }) (n8 + 1) cp8, undef, Value.pointer (some { block := wr.heap.size, off := 0 }), undef, undef, undef, undef, undef, undef, undef, undef, undef, undef, undef, undef, Value.slice (some { block := w.heap.size, off := 0 }) 0 0, Value.slice (some { block := w.heap.size + 1, off := 0 }) 0 0, Value.slice (some { block := g, off := o }) rs.length rc, Value.int IntKind.i64 ↑rs.length, Value.int IntKind.i64 ↑j, Value.bool true, Value.pointer (some { block := g, off := o + j * 3 }), Value.agg #[Value.int IntKind.i64 L, Value.int IntKind.i64 R, Value.slice B ps.length cc], Value.slice A7 n7 c7, Value.pointer (some { block := wr.heap.size, off := 0 }), Value.int IntKind.i64 L, Value.slice (some { block := k7, off := 0 }) 1 1, Value.slice (some { block := g7, off := 0 }) (n7 + 1) cp7, Value.slice A8 n8 c8, Value.pointer (some { block := wr.heap.size, off := 1 }), Value.int IntKind.i64 R, Value.slice (some { block := k8, off := 0 }) 1 1, Value.slice (some { block := g8, off := 0 }) (n8 + 1) cp8, u41, undef, undef, undef, undef, undef, undef, undef, undef, undef, undef, undef, undef, undef, undef, undef, undef, undef, undef, undef, undef, undef, undef, undef, undef, undef, undef, undef, undef, undef, undef, undef, undef, undef, undef, undef, undef, undef, undef, undef, undef, undef, undef, undef, undef, undef, undef, undef, undef, undef, undef, undef, undef, undef, undef, undef, undef, undef, undef, undef, undef, undef, undef, undef, undef], defers := [] } V) by
        clear hKs
        refine wp_region_held_drew (S := fun w' => w'.cell? ⟨wr.heap.size, 0, none⟩ = some (.int .i64 L) ∧ w'.cell? ⟨wr.heap.size, 1, none⟩ = some (.int .i64 R)) (by kernel_rfl) ?hS (fun hHeld => ?_)
        case hS => exact SS.out _ ((Fr.refl _ W4).drew)
        refine wpAnyH_take (i := 0) (v := ?vz1) (by simp only [List.getElem?_toArray, List.getElem?_cons_zero]; rfl) (by kernel_rfl) (by kernel_rfl) (by kernel_rfl) (by exact fun _ _ _ h => h) (Or.inl ⟨by rfl, ?hyz1⟩) (by assumption) ?restz1
        case hyz1 => (intro w hSw; (try dsimp only at hSw); go_simp; try with_reducible rfl)
        ((try simp only [Act.put]); (try simp only [List.setIfInBounds_toArray]); (try simp only [List.set_cons_succ]); (try simp only [List.set_cons_zero]))
        refine wpAnyH_take (i := 1) (v := ?vz2) (by simp only [List.getElem?_toArray, List.getElem?_cons_succ, List.getElem?_cons_zero]; rfl) (by kernel_rfl) (by kernel_rfl) (by kernel_rfl) (by exact fun _ _ _ h => h) (Or.inl ⟨by rfl, ?hyz2⟩) (by assumption) ?restz2
        case hyz2 => (intro w hSw; (try dsimp only at hSw); go_simp; try with_reducible rfl)
        ((try simp only [Act.put]); (try simp only [List.setIfInBounds_toArray]); (try simp only [List.set_cons_succ]); (try simp only [List.set_cons_zero]))
        refine wpAnyH_take (i := 2) (v := ?vz3) (by simp only [List.getElem?_toArray, List.getElem?_cons_succ, List.getElem?_cons_zero]; rfl) (by kernel_rfl) (by kernel_rfl) (by kernel_rfl) (by exact fun _ _ _ h => h) (Or.inl ⟨by rfl, ?hyz3⟩) (by assumption) ?restz3
        case hyz3 => (intro w hSw; (try dsimp only at hSw); go_simp; try with_reducible rfl)
        ((try simp only [Act.put]); (try simp only [List.setIfInBounds_toArray]); (try simp only [List.set_cons_succ]); (try simp only [List.set_cons_zero]))
        refine wpAnyH_take (i := 5) (v := ?vz4) (by simp only [List.getElem?_toArray, List.getElem?_cons_succ, List.getElem?_cons_zero]; rfl) (by kernel_rfl) (by kernel_rfl) (by kernel_rfl) (by exact fun _ _ _ h => h) (Or.inl ⟨by rfl, ?hyz4⟩) (by assumption) ?restz4
        case hyz4 => (intro w hSw; (try dsimp only at hSw); go_simp; try with_reducible rfl)
        ((try simp only [Act.put]); (try simp only [List.setIfInBounds_toArray]); (try simp only [List.set_cons_succ]); (try simp only [List.set_cons_zero]))
        refine wpAnyH_take (i := 6) (v := ?vz5) (by simp only [List.getElem?_toArray, List.getElem?_cons_succ, List.getElem?_cons_zero]; rfl) (by kernel_rfl) (by kernel_rfl) (by kernel_rfl) (by exact fun _ _ _ h => h) (Or.inl ⟨by rfl, ?hyz5⟩) (by assumption) ?restz5
        case hyz5 => (intro w hSw; (try dsimp only at hSw); go_simp; try with_reducible rfl)
        ((try simp only [Act.put]); (try simp only [List.setIfInBounds_toArray]); (try simp only [List.set_cons_succ]); (try simp only [List.set_cons_zero]))
        refine wpAnyH_take (i := 7) (v := ?vz6) (by simp only [List.getElem?_toArray, List.getElem?_cons_succ, List.getElem?_cons_zero]; rfl) (by kernel_rfl) (by kernel_rfl) (by kernel_rfl) (by exact fun _ _ _ h => h) (Or.inl ⟨by rfl, ?hyz6⟩) (by assumption) ?restz6
        case hyz6 => (intro w hSw; (try dsimp only at hSw); go_simp; try with_reducible rfl)
        ((try simp only [Act.put]); (try simp only [List.setIfInBounds_toArray]); (try simp only [List.set_cons_succ]); (try simp only [List.set_cons_zero]))
        have HAr := Lib.hid (HA4.out.no ((Fr.refl No _).drew))
        have HBr := Lib.hid (HB4.out.no ((Fr.refl No _).drew))
        have HFr := Lib.hid ((Fr.refl (fun b => Own A7 b ∨ Own A8 b) W4).drew)
        refine wpAnyH_ready (rs := [3, 8]) (by kernel_rfl) (by simp) ?_
        refine AllReadyH.cons rfl (fun K hK => ?_) (AllReadyH.cons rfl (fun K hK => ?_) AllReadyH.nil)
        · go_simp
          have HAr3 := Lib.hid (HAr.out.no ((Fr.refl No _).alloc (.cells #[.int .i64 L] 3)))
          have HBr3 := Lib.hid (HBr.out.no ((Fr.refl No _).alloc (.cells #[.int .i64 L] 3)))
          have HFr3 := Lib.hid (HFr.out.alloc (.cells #[.int .i64 L] 3))
          have HAr3 := Lib.hid (HAr3.out.build (Blk.new _ 3 #[.int .i64 L]) (Nat.le_trans HWR.out HFr.out.size))
          refine hK.out _ _ (SS.out _ HFr3.out) (fun hHr3 => ?_)
          clear hK K
          ((try simp only [Act.put]); (try simp only [List.setIfInBounds_toArray]); (try simp only [List.set_cons_succ]); (try simp only [List.set_cons_zero]))
          refine wpAnyH_ready (rs := [4, 8]) (by kernel_rfl) (by simp) ?_
          refine AllReadyH.cons rfl (fun K hK => ?_) (AllReadyH.cons rfl (fun K hK => ?_) AllReadyH.nil)
          · refine step_append_lies _ (by rfl) _ _ _ (by rfl) w.heap.size 3 i0 (.int .i64 0) 1 8 Tryz.underlying25 hi0 hz0 hz1 hz2 (by rfl) (by decide) (.slice A7 n7 c7) n7 (((ls rs).take j).map (Value.int .i64)) (by rfl) HAr3.out.row ⟨_, 0, none⟩ 1 1 [.int .i64 L] (by first | rfl | (go_simp; done) | (simp; done)) (by rfl) HAr3.out.news (by simp [Value.oneCell']) (by decide) (by unfold maxLen; omega) (by omega) (Nat.le_trans HBASE.out HFr3.out.size) _ rfl ?_
            intro g7 cp7 wr34 hown hgrow hat _
            obtain ⟨q1, q2, q3⟩ := HAr3.out.more (Nat.le_trans HWR.out HFr3.out.size) hown hgrow hat
            clear q3
            have HAr34 := Lib.hid q2
            have HBr34 := Lib.hid (HBr3.out.fr q1 (FA.out))
            have HFr34 := Lib.hid (HFr3.out.trans (q1.mono (fun _ _ h => .inl h)))
            clear hown hgrow hat q1 q2
            refine hK.out _ _ (SS.out _ HFr34.out) (fun hHr34 => ?_)
            clear hK K
            ((try simp only [Act.put, List.getElem_toArray, List.getElem_cons_succ, List.getElem_cons_zero]); (try simp only [List.setIfInBounds_toArray]); (try simp only [List.set_cons_succ]); (try simp only [List.set_cons_zero]))
            refine wpAnyH_ready (rs := [8]) (by kernel_rfl) (by simp) ?_
            refine AllReadyH.cons rfl (fun K hK => ?_) AllReadyH.nil
            go_simp
            have HAr348 := Lib.hid (HAr34.out.no ((Fr.refl No _).alloc (.cells #[.int .i64 R] 3)))
            have HBr348 := Lib.hid (HBr34.out.no ((Fr.refl No _).alloc (.cells #[.int .i64 R] 3)))
            have HFr348 := Lib.hid (HFr34.out.alloc (.cells #[.int .i64 R] 3))
            have HBr348 := Lib.hid (HBr348.out.build (Blk.new _ 3 #[.int .i64 R]) (Nat.le_trans HWR.out HFr34.out.size))
            refine hK.out _ _ (SS.out _ HFr348.out) (fun hHr348 => ?_)
            clear hK K
            ((try simp only [Act.put]); (try simp only [List.setIfInBounds_toArray]); (try simp only [List.set_cons_succ]); (try simp only [List.set_cons_zero]))
            refine wpAnyH_ready (rs := [9]) (by kernel_rfl) (by simp) ?_
            refine AllReadyH.cons rfl (fun K hK => ?_) AllReadyH.nil
            refine step_append_lies _ (by rfl) _ _ _ (by rfl) w.heap.size 3 i0 (.int .i64 0) 1 8 Tryz.underlying25 hi0 hz0 hz1 hz2 (by rfl) (by decide) (.slice A8 n8 c8) n8 (((rt rs).take j).map (Value.int .i64)) (by rfl) HBr348.out.row ⟨_, 0, none⟩ 1 1 [.int .i64 R] (by first | rfl | (go_simp; done) | (simp; done)) (by rfl) HBr348.out.news (by simp [Value.oneCell']) (by decide) (by unfold maxLen; omega) (by omega) (Nat.le_trans HBASE.out HFr348.out.size) _ rfl ?_
            intro g8 cp8 wr3489 hown hgrow hat _
            obtain ⟨q1, q2, q3⟩ := HBr348.out.more (Nat.le_trans HWR.out HFr348.out.size) hown hgrow hat
            have HD := Lib.hid (Chain.apart HO8.out HAP.out HAr348.out q3); clear q3
            have HBr3489 := Lib.hid q2
            have HAr3489 := Lib.hid (HAr348.out.fr q1 (FB.out))
            have HFr3489 := Lib.hid (HFr348.out.trans (q1.mono (fun _ _ h => .inr h)))
            clear hown hgrow hat q1 q2
            refine hK.out _ _ (SS.out _ HFr3489.out) (fun hHr3489 => ?_)
            clear hK K
            ((try simp only [Act.put, List.getElem_toArray, List.getElem_cons_succ, List.getElem_cons_zero]); (try simp only [List.setIfInBounds_toArray]); (try simp only [List.set_cons_succ]); (try simp only [List.set_cons_zero]))
            refine wpAnyH_take (i := 10) (v := ?vz7) (by simp only [List.getElem?_toArray, List.getElem?_cons_succ, List.getElem?_cons_zero]; rfl) (by kernel_rfl) (by kernel_rfl) (by kernel_rfl) (by exact fun _ _ _ h => h) (Or.inl ⟨by rfl, ?hyz7⟩) (by assumption) ?restz7
            case hyz7 => (intro w hSw; (try dsimp only at hSw); go_simp; try with_reducible rfl)
            ((try simp only [Act.put]); (try simp only [List.setIfInBounds_toArray]); (try simp only [List.set_cons_succ]); (try simp only [List.set_cons_zero]))
            refine wpAnyH_take (i := 11) (v := ?vz8) (by simp only [List.getElem?_toArray, List.getElem?_cons_succ, List.getElem?_cons_zero]; rfl) (by kernel_rfl) (by kernel_rfl) (by kernel_rfl) (by exact fun _ _ _ h => h) (Or.inl ⟨by rfl, ?hyz8⟩) (by assumption) ?restz8
            case hyz8 => (intro w hSw; (try dsimp only at hSw); go_simp; try with_reducible rfl)
            ((try simp only [Act.put]); (try simp only [List.setIfInBounds_toArray]); (try simp only [List.set_cons_succ]); (try simp only [List.set_cons_zero]))
            refine wpAnyH_done (by kernel_rfl) ?_ _
            exact REST.out _ _ _ _ _ _ _ HAr3489.out HBr3489.out HFr3489.out HD.out
          · go_simp
            have HAr38 := Lib.hid (HAr3.out.no ((Fr.refl No _).alloc (.cells #[.int .i64 R] 3)))
            have HBr38 := Lib.hid (HBr3.out.no ((Fr.refl No _).alloc (.cells #[.int .i64 R] 3)))
            have HFr38 := Lib.hid (HFr3.out.alloc (.cells #[.int .i64 R] 3))
            have HBr38 := Lib.hid (HBr38.out.build (Blk.new _ 3 #[.int .i64 R]) (Nat.le_trans HWR.out HFr3.out.size))
            refine hK.out _ _ (SS.out _ HFr38.out) (fun hHr38 => ?_)
            clear hK K
            ((try simp only [Act.put]); (try simp only [List.setIfInBounds_toArray]); (try simp only [List.set_cons_succ]); (try simp only [List.set_cons_zero]))
            refine wpAnyH_ready (rs := [4]) (by kernel_rfl) (by simp) ?_
            refine AllReadyH.cons rfl (fun K hK => ?_) AllReadyH.nil
            refine step_append_lies _ (by rfl) _ _ _ (by rfl) w.heap.size 3 i0 (.int .i64 0) 1 8 Tryz.underlying25 hi0 hz0 hz1 hz2 (by rfl) (by decide) (.slice A7 n7 c7) n7 (((ls rs).take j).map (Value.int .i64)) (by rfl) HAr38.out.row ⟨_, 0, none⟩ 1 1 [.int .i64 L] (by first | rfl | (go_simp; done) | (simp; done)) (by rfl) HAr38.out.news (by simp [Value.oneCell']) (by decide) (by unfold maxLen; omega) (by omega) (Nat.le_trans HBASE.out HFr38.out.size) _ rfl ?_
            intro g7 cp7 wr384 hown hgrow hat _
            obtain ⟨q1, q2, q3⟩ := HAr38.out.more (Nat.le_trans HWR.out HFr38.out.size) hown hgrow hat
            clear q3
            have HAr384 := Lib.hid q2
            have HBr384 := Lib.hid (HBr38.out.fr q1 (FA.out))
            have HFr384 := Lib.hid (HFr38.out.trans (q1.mono (fun _ _ h => .inl h)))
            clear hown hgrow hat q1 q2
            refine hK.out _ _ (SS.out _ HFr384.out) (fun hHr384 => ?_)
            clear hK K
            ((try simp only [Act.put, List.getElem_toArray, List.getElem_cons_succ, List.getElem_cons_zero]); (try simp only [List.setIfInBounds_toArray]); (try simp only [List.set_cons_succ]); (try simp only [List.set_cons_zero]))
            refine wpAnyH_ready (rs := [9]) (by kernel_rfl) (by simp) ?_
            refine AllReadyH.cons rfl (fun K hK => ?_) AllReadyH.nil
            refine step_append_lies _ (by rfl) _ _ _ (by rfl) w.heap.size 3 i0 (.int .i64 0) 1 8 Tryz.underlying25 hi0 hz0 hz1 hz2 (by rfl) (by decide) (.slice A8 n8 c8) n8 (((rt rs).take j).map (Value.int .i64)) (by rfl) HBr384.out.row ⟨_, 0, none⟩ 1 1 [.int .i64 R] (by first | rfl | (go_simp; done) | (simp; done)) (by rfl) HBr384.out.news (by simp [Value.oneCell']) (by decide) (by unfold maxLen; omega) (by omega) (Nat.le_trans HBASE.out HFr384.out.size) _ rfl ?_
            intro g8 cp8 wr3849 hown hgrow hat _
            obtain ⟨q1, q2, q3⟩ := HBr384.out.more (Nat.le_trans HWR.out HFr384.out.size) hown hgrow hat
            have HD := Lib.hid (Chain.apart HO8.out HAP.out HAr384.out q3); clear q3
            have HBr3849 := Lib.hid q2
            have HAr3849 := Lib.hid (HAr384.out.fr q1 (FB.out))
            have HFr3849 := Lib.hid (HFr384.out.trans (q1.mono (fun _ _ h => .inr h)))
            clear hown hgrow hat q1 q2
            refine hK.out _ _ (SS.out _ HFr3849.out) (fun hHr3849 => ?_)
            clear hK K
            ((try simp only [Act.put, List.getElem_toArray, List.getElem_cons_succ, List.getElem_cons_zero]); (try simp only [List.setIfInBounds_toArray]); (try simp only [List.set_cons_succ]); (try simp only [List.set_cons_zero]))
            refine wpAnyH_take (i := 10) (v := ?vz9) (by simp only [List.getElem?_toArray, List.getElem?_cons_succ, List.getElem?_cons_zero]; rfl) (by kernel_rfl) (by kernel_rfl) (by kernel_rfl) (by exact fun _ _ _ h => h) (Or.inl ⟨by rfl, ?hyz9⟩) (by assumption) ?restz9
            case hyz9 => (intro w hSw; (try dsimp only at hSw); go_simp; try with_reducible rfl)
            ((try simp only [Act.put]); (try simp only [List.setIfInBounds_toArray]); (try simp only [List.set_cons_succ]); (try simp only [List.set_cons_zero]))
            refine wpAnyH_take (i := 11) (v := ?vz10) (by simp only [List.getElem?_toArray, List.getElem?_cons_succ, List.getElem?_cons_zero]; rfl) (by kernel_rfl) (by kernel_rfl) (by kernel_rfl) (by exact fun _ _ _ h => h) (Or.inl ⟨by rfl, ?hyz10⟩) (by assumption) ?restz10
            case hyz10 => (intro w hSw; (try dsimp only at hSw); go_simp; try with_reducible rfl)
            ((try simp only [Act.put]); (try simp only [List.setIfInBounds_toArray]); (try simp only [List.set_cons_succ]); (try simp only [List.set_cons_zero]))
            refine wpAnyH_done (by kernel_rfl) ?_ _
            exact REST.out _ _ _ _ _ _ _ HAr3849.out HBr3849.out HFr3849.out HD.out
        · go_simp
          have HAr8 := Lib.hid (HAr.out.no ((Fr.refl No _).alloc (.cells #[.int .i64 R] 3)))
          have HBr8 := Lib.hid (HBr.out.no ((Fr.refl No _).alloc (.cells #[.int .i64 R] 3)))
          have HFr8 := Lib.hid (HFr.out.alloc (.cells #[.int .i64 R] 3))
          have HBr8 := Lib.hid (HBr8.out.build (Blk.new _ 3 #[.int .i64 R]) (Nat.le_trans HWR.out HFr.out.size))
          refine hK.out _ _ (SS.out _ HFr8.out) (fun hHr8 => ?_)
          clear hK K
          ((try simp only [Act.put]); (try simp only [List.setIfInBounds_toArray]); (try simp only [List.set_cons_succ]); (try simp only [List.set_cons_zero]))
          refine wpAnyH_ready (rs := [3]) (by kernel_rfl) (by simp) ?_
          refine AllReadyH.cons rfl (fun K hK => ?_) AllReadyH.nil
          go_simp
          have HAr83 := Lib.hid (HAr8.out.no ((Fr.refl No _).alloc (.cells #[.int .i64 L] 3)))
          have HBr83 := Lib.hid (HBr8.out.no ((Fr.refl No _).alloc (.cells #[.int .i64 L] 3)))
          have HFr83 := Lib.hid (HFr8.out.alloc (.cells #[.int .i64 L] 3))
          have HAr83 := Lib.hid (HAr83.out.build (Blk.new _ 3 #[.int .i64 L]) (Nat.le_trans HWR.out HFr8.out.size))
          refine hK.out _ _ (SS.out _ HFr83.out) (fun hHr83 => ?_)
          clear hK K
          ((try simp only [Act.put]); (try simp only [List.setIfInBounds_toArray]); (try simp only [List.set_cons_succ]); (try simp only [List.set_cons_zero]))
          refine wpAnyH_ready (rs := [4]) (by kernel_rfl) (by simp) ?_
          refine AllReadyH.cons rfl (fun K hK => ?_) AllReadyH.nil
          refine step_append_lies _ (by rfl) _ _ _ (by rfl) w.heap.size 3 i0 (.int .i64 0) 1 8 Tryz.underlying25 hi0 hz0 hz1 hz2 (by rfl) (by decide) (.slice A7 n7 c7) n7 (((ls rs).take j).map (Value.int .i64)) (by rfl) HAr83.out.row ⟨_, 0, none⟩ 1 1 [.int .i64 L] (by first | rfl | (go_simp; done) | (simp; done)) (by rfl) HAr83.out.news (by simp [Value.oneCell']) (by decide) (by unfold maxLen; omega) (by omega) (Nat.le_trans HBASE.out HFr83.out.size) _ rfl ?_
          intro g7 cp7 wr834 hown hgrow hat _
          obtain ⟨q1, q2, q3⟩ := HAr83.out.more (Nat.le_trans HWR.out HFr83.out.size) hown hgrow hat
          clear q3
          have HAr834 := Lib.hid q2
          have HBr834 := Lib.hid (HBr83.out.fr q1 (FA.out))
          have HFr834 := Lib.hid (HFr83.out.trans (q1.mono (fun _ _ h => .inl h)))
          clear hown hgrow hat q1 q2
          refine hK.out _ _ (SS.out _ HFr834.out) (fun hHr834 => ?_)
          clear hK K
          ((try simp only [Act.put, List.getElem_toArray, List.getElem_cons_succ, List.getElem_cons_zero]); (try simp only [List.setIfInBounds_toArray]); (try simp only [List.set_cons_succ]); (try simp only [List.set_cons_zero]))
          refine wpAnyH_ready (rs := [9]) (by kernel_rfl) (by simp) ?_
          refine AllReadyH.cons rfl (fun K hK => ?_) AllReadyH.nil
          refine step_append_lies _ (by rfl) _ _ _ (by rfl) w.heap.size 3 i0 (.int .i64 0) 1 8 Tryz.underlying25 hi0 hz0 hz1 hz2 (by rfl) (by decide) (.slice A8 n8 c8) n8 (((rt rs).take j).map (Value.int .i64)) (by rfl) HBr834.out.row ⟨_, 0, none⟩ 1 1 [.int .i64 R] (by first | rfl | (go_simp; done) | (simp; done)) (by rfl) HBr834.out.news (by simp [Value.oneCell']) (by decide) (by unfold maxLen; omega) (by omega) (Nat.le_trans HBASE.out HFr834.out.size) _ rfl ?_
          intro g8 cp8 wr8349 hown hgrow hat _
          obtain ⟨q1, q2, q3⟩ := HBr834.out.more (Nat.le_trans HWR.out HFr834.out.size) hown hgrow hat
          have HD := Lib.hid (Chain.apart HO8.out HAP.out HAr834.out q3); clear q3
          have HBr8349 := Lib.hid q2
          have HAr8349 := Lib.hid (HAr834.out.fr q1 (FB.out))
          have HFr8349 := Lib.hid (HFr834.out.trans (q1.mono (fun _ _ h => .inr h)))
          clear hown hgrow hat q1 q2
          refine hK.out _ _ (SS.out _ HFr8349.out) (fun hHr8349 => ?_)
          clear hK K
          ((try simp only [Act.put, List.getElem_toArray, List.getElem_cons_succ, List.getElem_cons_zero]); (try simp only [List.setIfInBounds_toArray]); (try simp only [List.set_cons_succ]); (try simp only [List.set_cons_zero]))
          refine wpAnyH_take (i := 10) (v := ?vz11) (by simp only [List.getElem?_toArray, List.getElem?_cons_succ, List.getElem?_cons_zero]; rfl) (by kernel_rfl) (by kernel_rfl) (by kernel_rfl) (by exact fun _ _ _ h => h) (Or.inl ⟨by rfl, ?hyz11⟩) (by assumption) ?restz11
          case hyz11 => (intro w hSw; (try dsimp only at hSw); go_simp; try with_reducible rfl)
          ((try simp only [Act.put]); (try simp only [List.setIfInBounds_toArray]); (try simp only [List.set_cons_succ]); (try simp only [List.set_cons_zero]))
          refine wpAnyH_take (i := 11) (v := ?vz12) (by simp only [List.getElem?_toArray, List.getElem?_cons_succ, List.getElem?_cons_zero]; rfl) (by kernel_rfl) (by kernel_rfl) (by kernel_rfl) (by exact fun _ _ _ h => h) (Or.inl ⟨by rfl, ?hyz12⟩) (by assumption) ?restz12
          case hyz12 => (intro w hSw; (try dsimp only at hSw); go_simp; try with_reducible rfl)
          ((try simp only [Act.put]); (try simp only [List.setIfInBounds_toArray]); (try simp only [List.set_cons_succ]); (try simp only [List.set_cons_zero]))
          refine wpAnyH_done (by kernel_rfl) ?_ _
          exact REST.out _ _ _ _ _ _ _ HAr8349.out HBr8349.out HFr8349.out HD.out
      refine Lib.hid (fun k7 k8 g7 cp7 g8 cp8 V hA hB hF hD => hKs _ _ ?_)
      have hfV : Fr No w V := (HFR.out.trans HF4.out).then_ hF (fun i hi h => by
        rcases h with h | h
        · have := (OR.bounds HO7.out h).1; omega
        · have := (OR.bounds HO8.out h).1; omega)
      have hF7 : OR V w.heap.size (some ⟨g7, 0, none⟩) (n7 + 1) cp7 ((ls rs).take (j + 1)) := by rw [ls_more HR.out]; exact hA.1
      have hF8 : OR V w.heap.size (some ⟨g8, 0, none⟩) (n8 + 1) cp8 ((rt rs).take (j + 1)) := by rw [rt_more HR.out]; exact hB.1
      have HX := Lib.hid (And.intro hfV (And.intro hF7 (And.intro hF8 hD)))
      clear hA hB hF hfV hF7 hF8 hD hKs
      go_wp2_with fail
      go_roundw
      case rel => exact ⟨j + 1, n7 + 1, cp7, n8 + 1, cp8, _, _, by omega, by go_num, rfl, rfl, HX.out.1, HX.out.2.1, HX.out.2.2.1, HX.out.2.2.2⟩
      case measure => simp [intOf]; omega
    · have hjl : j = rs.length := by omega
      have h7 : (ls rs).take j = ls rs := List.take_of_length_le (by simp [ls]; omega)
      have h8 : (rt rs).take j = rt rs := List.take_of_length_le (by simp [rt]; omega)
      have hjI : ¬ (j : Int) < (rs.length : Int) := by omega
      rw [h7] at ho7
      rw [h8] at ho8
      have M1 : Hid (∀ W, Fr No wr W → Calls Tryz.prog 42 #[.slice N ns.length nc, .slice A7 n7 c7] W fun e w' => ∃ (mp : Option Nat) (b : Bool), e = .returned (.tuple #[.map mp, .bool b]) ∧ Fr No W w' ∧ Hid ((b = true → ∃ ms mb, mp = some mb ∧ ModelIs ns (ls rs) ms ∧ SzAt w' mb (szs ms) ∧ W.heap.size ≤ mb) ∧ (b = false → ∀ ms, ¬ ModelIs ns (ls rs) ms))) := fun W hf => by
        have h := readModel_any W N A7 ns (ls rs) nc c7 ((HN.out.keep HFR.out (fun _ h => h.elim)).keep hf (fun _ h => h.elim)) (OR.isl (ho7.no hf)) (by omega) (by simp [ls]; omega) HNL.out
        rw [← ho7.1] at h
        refine h.mono ?_
        rintro e w' ⟨hf', ⟨ms, mb, hm, rfl, hs, hb⟩ | ⟨hno, rfl⟩⟩
        · exact ⟨some mb, true, rfl, hf', Lib.hid ⟨fun _ => ⟨ms, mb, rfl, hm, hs, hb⟩, fun h => by cases h⟩⟩
        · exact ⟨none, false, rfl, hf', Lib.hid ⟨fun h => (by cases h), fun _ => hno⟩⟩
      have M2 : Hid (∀ W, Fr No wr W → Calls Tryz.prog 42 #[.slice N ns.length nc, .slice A8 n8 c8] W fun e w' => ∃ (mp : Option Nat) (b : Bool), e = .returned (.tuple #[.map mp, .bool b]) ∧ Fr No W w' ∧ Hid ((b = true → ∃ ms mb, mp = some mb ∧ ModelIs ns (rt rs) ms ∧ SzAt w' mb (szs ms) ∧ W.heap.size ≤ mb) ∧ (b = false → ∀ ms, ¬ ModelIs ns (rt rs) ms))) := fun W hf => by
        have h := readModel_any W N A8 ns (rt rs) nc c8 ((HN.out.keep HFR.out (fun _ h => h.elim)).keep hf (fun _ h => h.elim)) (OR.isl (ho8.no hf)) (by omega) (by simp [rt]; omega) HNL.out
        rw [← ho8.1] at h
        refine h.mono ?_
        rintro e w' ⟨hf', ⟨ms, mb, hm, rfl, hs, hb⟩ | ⟨hno, rfl⟩⟩
        · exact ⟨some mb, true, rfl, hf', Lib.hid ⟨fun _ => ⟨ms, mb, rfl, hm, hs, hb⟩, fun h => by cases h⟩⟩
        · exact ⟨none, false, rfl, hf', Lib.hid ⟨fun h => (by cases h), fun _ => hno⟩⟩
      clear hfr ho7 ho8 hap h7 h8 HO7 HO8 HAP hjl
      go_wp2_with fail
      refine (M1.out _ (Fr.refl _ _)).mono ?_
      rintro e w1 ⟨mp1, b1, rfl, hf1, H1⟩
      have HF1 := Lib.hid hf1
      clear hf1 M1
      go_wp2_with fail
      refine (M2.out _ HF1.out).mono ?_
      rintro e w2 ⟨mp2, b2, rfl, hf2, H2⟩
      have HF2 := Lib.hid hf2
      clear hf2 M2
      go_wp2_with fail
      refine (newPool_any _).mono ?_
      rintro e w3 ⟨rfl, hw3⟩
      have hP3 := pool_start w2
      have hf3 : Fr No w2 ((w2.alloc (.map #[] 0)).alloc (.cells #[.map (some w2.heap.size)] 126)) := ((Fr.refl _ _).alloc _).alloc _
      rw [hw3] at hP3 hf3
      have hz3 : w3.heap.size = w2.heap.size + 2 := by rw [← hw3]; simp
      have HF3 := Lib.hid hf3
      have HP3 := Lib.hid hP3
      have HZ3 := Lib.hid hz3
      clear hw3 hP3 hf3 hz3
      go_wp2_with fail
      refine (read_any w3 _ _ [] [] s 0 HP3.out (by omega) hs).mono ?_
      rintro e w4 ⟨ps4, D4, hP4, hg4, hf4, hor4⟩
      have hfW4 : Fr No w2 w4 := HF3.out.then_ hf4 (fun i hi h => by have h : i = w2.heap.size := h; omega)
      have HFW4 := Lib.hid hfW4
      have HALL : Hid (Fr No w w4) := ((HFR.out.trans HF1.out).trans HF2.out).trans hfW4
      rcases hor4 with ⟨t, p, hi, hhp, rfl⟩ | ⟨hno, rfl⟩
      · rw [Ty.shift_zero] at hhp
        have HI := Lib.hid hi
        have HHP := Lib.hid hhp
        have HP4 := Lib.hid hP4
        clear hi hhp hP4 hg4 hf4 hfW4
        cases b1 with
        | false =>
          have HE : Hid (RdlP s ns rs w (.returned (.pointer none)) w4) := ⟨HALL.out, .inr ⟨fun t ml mr c c' _ h _ _ => H1.out.2 rfl ml h.ol, rfl⟩⟩
          go_wp2_with fail
          go_ret
          exact HE.out
        | true =>
          cases b2 with
          | false =>
            have HE : Hid (RdlP s ns rs w (.returned (.pointer none)) w4) := ⟨HALL.out, .inr ⟨fun t ml mr c c' _ h _ _ => H2.out.2 rfl mr h.or, rfl⟩⟩
            go_wp2_with fail
            go_ret
            exact HE.out
          | true =>
            obtain ⟨ml, mz1, rfl, hml, hs1, hb1⟩ := H1.out.1 rfl
            obtain ⟨mr, mz2, rfl, hmr, hs2, hb2⟩ := H2.out.1 rfl
            have hlen : ns.length = rs.length := by have := hml.len.1; simpa [ls] using this
            have hmlen : ml.length = ns.length := by have := congrArg List.length hml.names; simpa using this.symm
            have hmrlen : mr.length = ns.length := by have := congrArg List.length hmr.names; simpa using this.symm
            have hs1' := (hs1.fr HF2.out (fun h => h)).fr HFW4.out (fun h => h)
            have hs2' := hs2.fr HFW4.out (fun h => h)
            have l1 : mz1 < w1.heap.size := by obtain ⟨k, f, h, _⟩ := hs1; exact h.lt
            have l2 : mz2 < w2.heap.size := by obtain ⟨k, f, h, _⟩ := hs2; exact h.lt
            have l4 : w2.heap.size + 1 < w4.heap.size := by
              have h3 := HP4.out.low
              omega
            have HLS : Hid (wr.heap.size ≤ mz1 ∧ mz1 < w1.heap.size ∧ w1.heap.size ≤ mz2 ∧ mz2 < w2.heap.size ∧ w2.heap.size + 1 < w4.heap.size ∧ w.heap.size ≤ wr.heap.size ∧ w1.heap.size ≤ w2.heap.size) := ⟨hb1, l1, hb2, l2, l4, HFR.out.size, HF2.out.size⟩
            have HML := Lib.hid hml
            have HMR := Lib.hid hmr
            have HLEN := Lib.hid (And.intro hlen (And.intro hmlen hmrlen))
            have hf5 : Fr No w4 (w4.alloc (.map #[] 0)) := (Fr.refl _ _).alloc _
            have hm5 : MapAt (w4.alloc (.map #[] 0)) encI w4.heap.size 0 (fun _ => none) := MapAt.made w4 encI
            have HS5 := Lib.hid (And.intro (hs1'.fr hf5 (fun h => h)) (hs2'.fr hf5 (fun h => h)))
            have HP5 := Lib.hid (HP4.out.fr hf5 (fun h => h) (fun h => h) (fun _ _ h => h))
            have HALL5 := Lib.hid (HALL.out.trans hf5)
            obtain ⟨W5, hW5⟩ : ∃ W5, W5 = w4.alloc (.map #[] 0) := ⟨_, rfl⟩
            rw [← hW5] at hm5 HS5 HP5 HALL5
            have HM5 := Lib.hid hm5
            have HW5 := Lib.hid hW5
            have hmm := @run_makeMap Tryz.prog
            have hnI : (ns.length : Int) ≤ 1048576 := by omega
            clear hml hmr hs1 hs2 hs1' hs2' hb1 hb2 l1 l2 l4 hf5 hm5 hW5 hlen hmlen hmrlen H1 H2
            go_wp2_with fail
            rw [← HW5.out]
            clear HW5 hmm
            go_loopw [71] (fun u W => ∃ (j : Nat) (ps : List Nat) (D : List Ty), j ≤ ns.length ∧ u = .int .i64 j ∧ Pool W (w2.heap.size + 1) w2.heap.size ps D ∧ Has ps D t p ∧ Fr No w W ∧ SzAt W mz1 (szs ml) ∧ SzAt W mz2 (szs mr) ∧ (∀ r ∈ rs.take j, RelOk r.1 r.2.1 r.2.2) ∧ w4.heap.size < W.heap.size ∧ ∃ k f, MapAt W encI w4.heap.size k f ∧ ∀ j' : Nat, j' < j → ∀ (i l r : Nat) (ps' : List Int), ml[j']? = some (i, l) → mr[j']? = some (i, r) → (pss rs)[j']? = some ps' → ∃ b, f i = some (Ptr b) ∧ RelAt W b l r w4.heap.size (memR r ps')) (fun u _ => ns.length - (intOf u).toNat)
            case atStart => exact ⟨0, ps4, D4, Nat.zero_le _, rfl, HP5.out, HHP.out, HALL5.out, HS5.out.1, HS5.out.2, by simp, HM5.out.lt, 0, _, HM5.out, fun j' h => by omega⟩
            case round =>
              obtain ⟨j, ps, D, hj, rfl, hP, hh, hfr, hs1, hs2, hok, hsz, k, f, hmap, hrels⟩ := hrel
              have HPW := Lib.hid hP
              have HHW := Lib.hid hh
              have HFW := Lib.hid hfr
              have HSW := Lib.hid (And.intro hs1 hs2)
              have HOKW := Lib.hid hok
              have HSZW := Lib.hid hsz
              have HMW := Lib.hid (And.intro hmap hrels)
              clear hP hh hfr hs1 hs2 hok hmap hrels
              by_cases hlt : j < ns.length
              · have hjI : (j : Int) < (ns.length : Int) := by omega
                have hjR : j < rs.length := by have := HLEN.out.1; omega
                have hjRI : (j : Int) < (rs.length : Int) := by omega
                obtain ⟨⟨i, l⟩, hmlj⟩ : ∃ q, ml[j]? = some q := ⟨_, List.getElem?_eq_getElem (by have := HLEN.out.2.1; omega)⟩
                obtain ⟨⟨i', r⟩, hmrj⟩ : ∃ q, mr[j]? = some q := ⟨_, List.getElem?_eq_getElem (by have := HLEN.out.2.2; omega)⟩
                obtain ⟨⟨L, R, pj⟩, hrj⟩ : ∃ q, rs[j]? = some q := ⟨_, List.getElem?_eq_getElem (by have := HLEN.out.1; omega)⟩
                have hnj : ns[j]? = some [Ty.letter i] := by rw [HML.out.names, List.getElem?_map, hmlj]; rfl
                have hnj2 : ns[j]? = some [Ty.letter i'] := by rw [HMR.out.names, List.getElem?_map, hmrj]; rfl
                have i25 := (HML.out.ok _ (List.mem_of_getElem? hmlj)).1
                have i25' := (HMR.out.ok _ (List.mem_of_getElem? hmrj)).1
                have hii : i' = i := by
                  rw [hnj] at hnj2
                  injection hnj2 with h
                  injection h with h
                  exact Ty.letter_inj i25' i25 h.symm
                subst hii
                have hLl : L = l := by
                  have h1 : (ls rs)[j]? = some L := by simp [ls, hrj]
                  rw [HML.out.sizes, List.getElem?_map, hmlj] at h1
                  simp at h1
                  exact h1.symm
                have hRr : R = r := by
                  have h1 : (rt rs)[j]? = some R := by simp [rt, hrj]
                  rw [HMR.out.sizes, List.getElem?_map, hmrj] at h1
                  simp at h1
                  exact h1.symm
                subst hLl hRr
                obtain ⟨gn, on, rfl, hcn⟩ := (HN.out.keep HFW.out (fun _ h => h.elim)) j _ hnj
                obtain ⟨g, o, B, cc, rfl, c0, c1, c2, hisl, hpl⟩ := (HA.out.no HFW.out) j _ _ _ hrj
                have RDC : Hid (∀ V, Fr No wr V → Calls Tryz.prog 31 #[RV l r B pj.length cc] V fun e w' => ReadR l r pj V e w') := fun V hf => readRelation_any V l r B cc pj (hisl.keep hf (fun _ h => h.elim)) hpl
                have lg := block_lt c0
                have ln := block_lt hcn
                have HJ := Lib.hid (And.intro hmlj (And.intro hmrj hrj))
                clear hmlj hmrj hrj hnj hnj2 i25' hisl hpl
                go_wp2_with fail
                refine (RDC.out _ (Fr.refl _ _)).mono ?_
                rintro e w5 ⟨hf5, ⟨l', r', b, el, er, hok5, rfl, hrel5⟩ | ⟨hno, rfl⟩⟩
                · have el : l' = l := by omega
                  have er : r' = r := by omega
                  subst el er
                  have HF5 := Lib.hid hf5
                  have HOK5 := Lib.hid hok5
                  have HREL5 := Lib.hid hrel5
                  clear hf5 hok5 hrel5 c0 c1 c2 hcn lg ln RDC
                  go_wp2_with fail
                  refine (readVar_any w5 _ _ ps D [Ty.letter i'] (HPW.out.fr HF5.out (fun h => h) (fun h => h) (fun _ _ h => h)) (by show 1 ≤ maxLen; decide)).mono ?_
                  rintro e w6 ⟨ps6, D6, hP6, hg6, hf6, hor6⟩
                  obtain ⟨pa, hpa, rfl⟩ : ∃ pa, Has ps6 D6 (.v i') pa ∧ e = .returned (Ptr pa) := by
                    rcases hor6 with ⟨i2, pa, hi25, hle, hpa, he⟩ | ⟨hno, _⟩
                    · injection hle with hle
                      have : i2 = i' := (Ty.letter_inj i25 hi25 hle).symm
                      subst this
                      exact ⟨pa, hpa, he⟩
                    · exact absurd rfl (hno i' i25)
                  obtain ⟨ya, yb, yc, hba, _⟩ := hpa.blk hP6
                  have cpa : w6.cell? ⟨pa, 1, none⟩ = some (.int .i64 i') := (hba.cell 1).trans rfl
                  have lpa := hba.lt
                  have hLS := HLS.out
                  have hm6 : MapAt w6 encI w4.heap.size k f := (HMW.out.1.keep (HF5.out.block _ HMW.out.1.lt (fun h => h))).keep (hf6.block _ (Nat.lt_of_lt_of_le HMW.out.1.lt HF5.out.size) (fun h => by have h : w4.heap.size = w2.heap.size := h; omega))
                  obtain ⟨w7, hrun, hm7, hturn, _⟩ := hm6.update (int_kind Tryz.underlying3) Tryz.underlying95 (i' : Int) (Ptr b)
                  have hf7 : Fr (One w4.heap.size) w6 w7 := (Fr.refl (One w4.heap.size) w6).turned hturn (.inl rfl)
                  have NEXT : Hid (Pool w7 (w2.heap.size + 1) w2.heap.size ps6 D6 ∧ Has ps6 D6 t p ∧ Fr No w w7 ∧ SzAt w7 mz1 (szs ml) ∧ SzAt w7 mz2 (szs mr) ∧ (∀ r ∈ rs.take (j + 1), RelOk r.1 r.2.1 r.2.2) ∧ w4.heap.size < w7.heap.size ∧ ∃ k f, MapAt w7 encI w4.heap.size k f ∧ ∀ j' : Nat, j' < j + 1 → ∀ (i l r : Nat) (ps' : List Int), ml[j']? = some (i, l) → mr[j']? = some (i, r) → (pss rs)[j']? = some ps' → ∃ b, f i = some (Ptr b) ∧ RelAt w7 b l r w4.heap.size (memR r ps')) := by
                    obtain ⟨es, clk, hme, _⟩ := id hm6
                    obtain ⟨hq1, hq2⟩ := hP6.not_mapg hme (by omega)
                    have nI : ∀ g t cs, Blk w6 g t cs → t ≠ 3 → ¬ One w4.heap.size g := fun g t cs hb _ h => hb.ne_map hme (show g = w4.heap.size from h)
                    refine ⟨hP6.fr hf7 (fun h => hq1 h) (fun h => by have h : w2.heap.size = w4.heap.size := h; omega) (fun p hp h => hq2 (by have h : p = w4.heap.size := h; rw [← h]; exact hp)), HHW.out.grew hg6, ((HFW.out.trans HF5.out).then_ hf6 (fun i hi h => by have h : i = w2.heap.size := h; omega)).then_ hf7 (fun i hi h => by have h : i = w4.heap.size := h; omega), ((HSW.out.1.fr HF5.out (fun h => h)).fr hf6 (fun h => by have h : mz1 = w2.heap.size := h; omega)).fr hf7 (fun h => by have h : mz1 = w4.heap.size := h; omega), ((HSW.out.2.fr HF5.out (fun h => h)).fr hf6 (fun h => by have h : mz2 = w2.heap.size := h; omega)).fr hf7 (fun h => by have h : mz2 = w4.heap.size := h; omega), ?_, hm7.lt, _, _, hm7, ?_⟩
                    · intro r hr
                      rw [List.take_add_one, HJ.out.2.2] at hr
                      rcases List.mem_append.1 hr with hr | hr
                      · exact HOKW.out r hr
                      · simp at hr; subst hr; exact HOK5.out
                    · intro j' hj' i2 l2 r2 ps2 g1 g2 g3
                      by_cases e : j' = j
                      · subst e
                        rw [HJ.out.1] at g1
                        rw [HJ.out.2.1] at g2
                        injection g1 with g1
                        injection g1 with g1 g1'
                        injection g2 with g2
                        injection g2 with g2 g2'
                        subst g1 g1' g2'
                        have g3' : ps2 = pj := by
                          simp only [pss, List.getElem?_map, HJ.out.2.2, Option.map_some, Option.some.injEq] at g3
                          exact g3.symm
                        subst g3'
                        obtain ⟨h1, Rb, gs, h2, h3⟩ := HREL5.out
                        have hR : RelAt w5 b l' r' w4.heap.size (memR r' ps2) := ⟨by have := HSZW.out; omega, Rb, gs, h2, h3.base (by have := HSZW.out; omega)⟩
                        exact ⟨b, updK_same _ _ _, (hR.fr hf6 (fun g h => by have h : g = w2.heap.size := h; omega)).frO hf7 nI⟩
                      · obtain ⟨b2, h1, h2⟩ := HMW.out.2 j' (by omega) i2 l2 r2 ps2 g1 g2 g3
                        have hne : i2 ≠ i' := by
                          intro e2
                          have hn := HML.out.nodup
                          have q1 : (ml.map Prod.fst)[j']? = some i2 := by rw [List.getElem?_map, g1]; rfl
                          have q2 : (ml.map Prod.fst)[j]? = some i' := by rw [List.getElem?_map, HJ.out.1]; rfl
                          have hl1 := (List.getElem?_eq_some_iff.1 q1)
                          have hl2 := (List.getElem?_eq_some_iff.1 q2)
                          obtain ⟨a1, a2⟩ := hl1
                          obtain ⟨a3, a4⟩ := hl2
                          exact e ((List.getElem_inj hn).1 (a2.trans (e2.trans a4.symm)))
                        exact ⟨b2, by rw [updK_other _ _ _ (by omega)]; exact h1, ((h2.fr HF5.out (fun _ h => h.elim)).fr hf6 (fun g h => by have h : g = w2.heap.size := h; omega)).frO hf7 nI⟩
                  clear hP6 hg6 hf6 hor6 hpa hba hm6 hm7 hturn hf7 hLS
                  go_wp2_with fail
                  clear hrun
                  go_roundw
                  case rel => exact ⟨j + 1, ps6, D6, by omega, by go_num, NEXT.out⟩
                  case measure => simp [intOf]; omega
                · have HE : Hid (RdlP s ns rs w (.returned (.pointer none)) w5) := ⟨HFW.out.trans hf5, .inr ⟨fun t ml mr c c' _ h _ _ => hno (h.ok _ (List.mem_of_getElem? HJ.out.2.2)), rfl⟩⟩
                  clear hf5 hno c0 c1 c2 hcn lg ln RDC
                  go_wp2_with fail
                  go_ret
                  exact HE.out
              · have hjn : j = ns.length := by omega
                have hjI : ¬ (j : Int) < (ns.length : Int) := by omega
                have hokA : ∀ r ∈ rs, RelOk r.1 r.2.1 r.2.2 := fun r hr => HOKW.out r (by rw [List.take_of_length_le (by have := HLEN.out.1; omega)]; exact hr)
                have HSP : Hid (SpIs ns rs ml mr) := ⟨HML.out, HMR.out, hokA⟩
                have hu : ∃ u, u = wr.heap.size + 2 := ⟨_, rfl⟩
                obtain ⟨u, hu⟩ := hu
                clear hokA
                go_wp2_with fail
                refine (newUnion_any _ _).mono ?_
                rintro e w6 ⟨rfl, hw6⟩
                have hf6 : Fr No wr w6 := by rw [← hw6]; exact (((Fr.refl No _).alloc _).alloc _).alloc _
                have hz6 : w6.heap.size = wr.heap.size + 3 := by rw [← hw6]; simp
                have hQ6 : Fresh (w2.heap.size + 1) w2.heap.size ps D (wr.heap.size + 2) wr.heap.size (wr.heap.size + 1) w6 := by
                  refine ⟨HPW.out.fr hf6 (fun h => h) (fun h => h) (fun _ _ h => h), ?_, ?_⟩
                  · rw [← hw6]; exact Blk.new_at _ _ _ (by simp)
                  · rw [← hw6]; exact (MapAt.made wr encI).keep ((Below.heap_alloc _ _ _ (by simp; omega)).trans (Below.heap_alloc _ _ _ (by simp)))
                have HF6 := Lib.hid hf6
                have HQ6 := Lib.hid hQ6
                have HZ6 := Lib.hid hz6
                clear hw6 hf6 hQ6 hz6
                go_wp2_with fail
                refine (newCounter_any _ _ _).mono ?_
                rintro e w7 ⟨rfl, hw7⟩
                obtain ⟨hcs1, hf7⟩ := cs_made (ml := wr.heap.size) (L := fun p t => Has ps D t p) (Q := Fresh (w2.heap.size + 1) w2.heap.size ps D (wr.heap.size + 2) wr.heap.size (wr.heap.size + 1)) (HSW.out.1.fr HF6.out (fun h => h)) (HQ6.out.no (by subst hw7; exact ((Fr.refl No w6).alloc _).alloc _)) hw7
                have hz7 : w7.heap.size = w6.heap.size + 2 := by rw [← hw7]; simp
                have HC7 := Lib.hid hcs1
                have HF7 := Lib.hid hf7
                have HZ7 := Lib.hid hz7
                clear hw7 hcs1 hf7 hz7
                go_wp2_with fail
                refine (newCounter_any _ _ _).mono ?_
                rintro e w8 ⟨rfl, hw8⟩
                obtain ⟨hcs2, hf8⟩ := cs_made (ml := wr.heap.size) (L := fun p t => Has ps D t p) (Q := Fresh (w2.heap.size + 1) w2.heap.size ps D (wr.heap.size + 2) wr.heap.size (wr.heap.size + 1)) ((HSW.out.2.fr HF6.out (fun h => h)).fr HF7.out (fun h => h)) (HC7.out.q.no (by subst hw8; exact ((Fr.refl No w7).alloc _).alloc _)) hw8
                have hz8 : w8.heap.size = w7.heap.size + 2 := by rw [← hw8]; simp
                have hcs1 := HC7.out.no (lead_fresh (w2.heap.size + 1) w2.heap.size ps D (wr.heap.size + 2) wr.heap.size (wr.heap.size + 1)) hf8
                have HC8 := Lib.hid (And.intro hcs1 hcs2)
                have HF8 := Lib.hid hf8
                have HZ8 := Lib.hid hz8
                clear hw8 hcs1 hcs2 hf8 hz8
                have hfa : Fr No w8 (w8.alloc (.cells #[.map (some w4.heap.size), Ptr (w6.heap.size + 1), Ptr (w7.heap.size + 1)] 104)) := (Fr.refl No w8).alloc _
                have hLb : Blk (w8.alloc (.cells #[.map (some w4.heap.size), Ptr (w6.heap.size + 1), Ptr (w7.heap.size + 1)] 104)) w8.heap.size 104 #[.map (some w4.heap.size), Ptr (w6.heap.size + 1), Ptr (w7.heap.size + 1)] := Blk.new _ _ _
                obtain ⟨V8, hV8⟩ : ∃ V8, V8 = (w8.alloc (.cells #[.map (some w4.heap.size), Ptr (w6.heap.size + 1), Ptr (w7.heap.size + 1)] 104)) := ⟨_, rfl⟩
                rw [← hV8] at hfa hLb
                have hF48 : Fr No wr V8 := ((HF6.out.trans HF7.out).trans HF8.out).trans hfa
                have hL := lead_fresh (w2.heap.size + 1) w2.heap.size ps D (wr.heap.size + 2) wr.heap.size (wr.heap.size + 1)
                have hcs1 := HC8.out.1.no hL hfa
                have hcs2 := HC8.out.2.no hL hfa
                have hTZ8 := HT.out.fr (HFW.out.trans hF48) (fun h => h)
                have hLS := HLS.out
                have hz6 := HZ6.out
                have hz7 := HZ7.out
                have hz8 := HZ8.out
                have hsz := HSZW.out
                have hrl : RelsAt V8 w4.heap.size V8.heap.size (szs ml) (szs mr) (rhoL mr (pss rs)) := by
                  refine ⟨k, f, HMW.out.1.keep (hF48.block _ HMW.out.1.lt (fun h => h)), fun i a a' e1 e2 => ?_⟩
                  obtain ⟨j1, hj1⟩ := List.mem_iff_getElem?.1 (szs_mem e1)
                  obtain ⟨j2, hj2⟩ := List.mem_iff_getElem?.1 (szs_mem e2)
                  have n1 : ns[j1]? = some [Ty.letter i] := by rw [HML.out.names, List.getElem?_map, hj1]; rfl
                  have n2 : ns[j2]? = some [Ty.letter i] := by rw [HMR.out.names, List.getElem?_map, hj2]; rfl
                  obtain ⟨⟨i3, l3⟩, hj3⟩ : ∃ q, ml[j2]? = some q := ⟨_, List.getElem?_eq_getElem (by have h := (List.getElem?_eq_some_iff.1 hj2).1; have := HLEN.out; omega)⟩
                  have n3 : ns[j2]? = some [Ty.letter i3] := by rw [HML.out.names, List.getElem?_map, hj3]; rfl
                  have i3e : i3 = i := by
                    rw [n2] at n3
                    injection n3 with h
                    injection h with h
                    exact Ty.letter_inj (HML.out.ok _ (List.mem_of_getElem? hj3)).1 (HML.out.ok _ (List.mem_of_getElem? hj1)).1 h.symm
                  subst i3e
                  have jj : j2 = j1 := by
                    have q1 : (ml.map Prod.fst)[j2]? = some i3 := by rw [List.getElem?_map, hj3]; rfl
                    have q2 : (ml.map Prod.fst)[j1]? = some i3 := by rw [List.getElem?_map, hj1]; rfl
                    obtain ⟨a1, a2⟩ := List.getElem?_eq_some_iff.1 q1
                    obtain ⟨a3, a4⟩ := List.getElem?_eq_some_iff.1 q2
                    exact (List.getElem_inj HML.out.nodup).1 (a2.trans a4.symm)
                  subst jj
                  have hl2 := (List.getElem?_eq_some_iff.1 hj2).1
                  obtain ⟨⟨L, R, pj⟩, hrj⟩ : ∃ q, rs[j2]? = some q := ⟨_, List.getElem?_eq_getElem (by have := HLEN.out; omega)⟩
                  have hpj : (pss rs)[j2]? = some pj := by simp [pss, hrj]
                  obtain ⟨b, hb1, hb2⟩ := HMW.out.2 j2 (by have := HLEN.out; omega) i3 a a' pj hj1 hj2 hpj
                  obtain ⟨_, Rb, gs, hrb, hrows⟩ := hb2.fr hF48 (fun _ h => h.elim)
                  rw [rhoL_at HMR.out.nodup hj2 hpj]
                  exact ⟨b, Rb, gs, hb1, hrb, hrows.base (Nat.zero_le _), hrows.rows.lt⟩
                have hLf : LfAt (wr.heap.size + 2) wr.heap.size mz1 w6.heap.size (w6.heap.size + 1) mz2 w7.heap.size (w7.heap.size + 1) w8.heap.size w4.heap.size V8.heap.size (fun p t => Has ps D t p) (Fresh (w2.heap.size + 1) w2.heap.size ps D (wr.heap.size + 2) wr.heap.size (wr.heap.size + 1)) (szs ml) (szs mr) (rhoL mr (pss rs)) V8 := ⟨hcs1, hcs2, hLb, hrl⟩
                have hpl := HPW.out.low
                have own1 : ∀ b, (b = w2.heap.size + 1 ∨ b = w2.heap.size ∨ b ∈ ps ∨ b = wr.heap.size + 2 ∨ b = wr.heap.size) → b < w6.heap.size := by
                  rintro b (h | h | h | h | h)
                  · omega
                  · omega
                  · have := hpl.2.2 _ h; omega
                  · omega
                  · omega
                have O1 : CsOk wr.heap.size mz1 w6.heap.size (fun b => b = w2.heap.size + 1 ∨ b = w2.heap.size ∨ b ∈ ps ∨ b = wr.heap.size + 2 ∨ b = wr.heap.size) (szs ml) := ⟨by omega, by omega, by omega, fun h => by have := own1 _ h; omega, HML.out.sz⟩
                have O2 : CsOk wr.heap.size mz2 w7.heap.size (fun b => b = w2.heap.size + 1 ∨ b = w2.heap.size ∨ b ∈ ps ∨ b = wr.heap.size + 2 ∨ b = wr.heap.size) (szs mr) := ⟨by omega, by omega, by omega, fun h => by have := own1 _ h; omega, HMR.out.sz⟩
                have hOk : LfOk wr.heap.size mz1 w6.heap.size mz2 w7.heap.size w4.heap.size (fun b => b = w2.heap.size + 1 ∨ b = w2.heap.size ∨ b ∈ ps ∨ b = wr.heap.size + 2 ∨ b = wr.heap.size) (szs ml) (szs mr) := ⟨O1, O2, by omega, by omega, by omega, by omega, by omega, by omega⟩
                have hLC : LC (szs ml) (szs mr) (rhoL mr (pss rs)) (fun _ => none) No V8 := ⟨fun g t h => (by cases h), hTZ8, rfl⟩
                have hFw : Fr No w V8 := HFW.out.trans hF48
                have hm3 : ∀ b, Three wr.heap.size w6.heap.size w7.heap.size b → w.heap.size ≤ b := fun b h => by
                  have := HFW.out.size
                  rcases h with h | h | h <;> omega
                have HV8 := Lib.hid hV8
                rcases hk1 : t.kn (szs ml) with _ | c
                · have CALL := Lib.hid (ofl_nil hL hOk t V8 p hLf HHW.out (.inl hk1))
                  have HE : Hid (∀ w', Fr (Three wr.heap.size w6.heap.size w7.heap.size) V8 w' → RdlP s ns rs w (.returned (.pointer none)) w') := fun w' hf => ⟨hFw.then_ hf (fun i hi h => by have := hm3 i h; omega), .inr ⟨fun t' ml' mr' c c' g1 g2 g3 g4 => (by
                    have e := g1.unique HI.out
                    subst e
                    rw [g2.ol.unique HML.out, hk1] at g3
                    cases g3), rfl⟩⟩
                  clear hfa hLb hF48 hcs1 hcs2 hTZ8 hrl hLf own1 O1 O2 hOk hLC hFw hm3 hk1 hV8 hpl hL hz6 hz7 hz8 hsz hLS
                  go_wp2_with fail
                  rw [← HV8.out]
                  refine CALL.out.mono ?_
                  rintro e w9 ⟨rfl, hf9⟩
                  have HE2 := Lib.hid (HE.out _ hf9)
                  clear hf9 CALL
                  go_wp2_with fail
                  go_ret
                  exact HE2.out
                · rcases hk2 : t.kn (szs mr) with _ | c'
                  · have CALL := Lib.hid (ofl_nil hL hOk t V8 p hLf HHW.out (.inr hk2))
                    have HE : Hid (∀ w', Fr (Three wr.heap.size w6.heap.size w7.heap.size) V8 w' → RdlP s ns rs w (.returned (.pointer none)) w') := fun w' hf => ⟨hFw.then_ hf (fun i hi h => by have := hm3 i h; omega), .inr ⟨fun t' ml' mr' c c' g1 g2 g3 g4 => (by
                      have e := g1.unique HI.out
                      subst e
                      rw [g2.or.unique HMR.out, hk2] at g4
                      cases g4), rfl⟩⟩
                    clear hfa hLb hF48 hcs1 hcs2 hTZ8 hrl hLf own1 O1 O2 hOk hLC hFw hm3 hk1 hk2 hV8 hpl hL hz6 hz7 hz8 hsz hLS
                    go_wp2_with fail
                    rw [← HV8.out]
                    refine CALL.out.mono ?_
                    rintro e w9 ⟨rfl, hf9⟩
                    have HE2 := Lib.hid (HE.out _ hf9)
                    clear hf9 CALL
                    go_wp2_with fail
                    go_ret
                    exact HE2.out
                  · have CALL := Lib.hid (ofl_any hL fresh_nd fresh_own hOk HML.out.sz t V8 p (fun _ => none) c c' hLf HHW.out hLC (fun g ⟨t, h⟩ => by cases h) (Nat.le_refl _) hk1 hk2)
                    have HE : Hid (∀ (w' : World) (P : Nat) (F : Cach), LtAt (szs ml) (szs mr) (rhoL mr (pss rs)) F No w' t P → LC (szs ml) (szs mr) (rhoL mr (pss rs)) F No w' → (∀ g, InF F g → V8.heap.size ≤ g) → Fr (Three wr.heap.size w6.heap.size w7.heap.size) V8 w' → RdlP s ns rs w (.returned (Ptr P)) w') := fun w' P F h1 h2 h3 hf => ⟨hFw.then_ hf (fun i hi h => by have := hm3 i h; omega), .inl ⟨t, ml, mr, c, c', P, F, HI.out, HSP.out, hk1, hk2, rfl, h1, h2, fun g hg => Nat.le_trans hFw.size (h3 g hg)⟩⟩
                    clear hfa hLb hF48 hcs1 hcs2 hTZ8 hrl hLf own1 O1 O2 hOk hLC hFw hm3 hk1 hk2 hV8 hpl hL hz6 hz7 hz8 hsz hLS
                    go_wp2_with fail
                    rw [← HV8.out]
                    refine CALL.out.mono ?_
                    rintro e w9 ⟨P, F', rfl, hlt9, hlc9, _, _, hF9, hf9⟩
                    have HE2 := Lib.hid (HE.out _ _ _ hlt9 hlc9 hF9 hf9)
                    clear hlt9 hlc9 hF9 hf9 CALL
                    go_wp2_with fail
                    go_ret
                    exact HE2.out
      · have HE : Hid (RdlP s ns rs w (.returned (.pointer none)) w4) := ⟨HALL.out, .inr ⟨fun t ml mr c c' h _ _ _ => hno t h, rfl⟩⟩
        clear hP4 hg4 hf4 hfW4 hno
        go_wp2_with fail
        go_ret
        exact HE.out
end Go.Proofs.YtloecimlimoanaaGreatDoor

/- Related, on the side of the program. -/
namespace Go.Proofs.YtloecimlimoanaaGreatDoor
open Go.RowKit Go.ChangeMaps

/-- two numbers are related by relations with names, lifted to a type -/
def RelatedIs (s : List UInt8) (ns : List (List UInt8)) (rs : List (Int × Int × List Int)) (x y : Int) : Prop :=
  ∃ (t : Ty) (ml mr : List (Nat × Nat)) (c c' xn yn : Nat), Ty.Is s t ∧ SpIs ns rs ml mr ∧ t.kn (szs ml) = some c ∧ t.kn (szs mr) = some c' ∧ x = xn ∧ y = yn ∧ xn < c ∧ yn < c' ∧ relT (szs ml) (szs mr) (rhoL mr (pss rs)) t xn yn = true

theorem relatedIs_iff {s : List UInt8} {ns : List (List UInt8)} {rs : List (Int × Int × List Int)} {x y : Int} {t : Ty} {ml mr : List (Nat × Nat)} {c c' : Nat} (hi : Ty.Is s t) (hs : SpIs ns rs ml mr) (h1 : t.kn (szs ml) = some c) (h2 : t.kn (szs mr) = some c') :
    RelatedIs s ns rs x y ↔ ∃ xn yn : Nat, x = xn ∧ y = yn ∧ xn < c ∧ yn < c' ∧ relT (szs ml) (szs mr) (rhoL mr (pss rs)) t xn yn = true := by
  constructor
  · rintro ⟨t', ml', mr', d, d', xn, yn, g1, g2, g3, g4, g5⟩
    have e := g1.unique hi
    subst e
    have e := g2.ol.unique hs.ol
    subst e
    have e := g2.or.unique hs.or
    subst e
    rw [g3] at h1
    rw [g4] at h2
    injection h1 with h1
    injection h2 with h2
    subst h1 h2
    exact ⟨xn, yn, g5⟩
  · rintro ⟨xn, yn, h⟩
    exact ⟨t, ml, mr, c, c', xn, yn, hi, hs, h1, h2, h⟩

/-- what Related answers -/
def RtdP (s : List UInt8) (ns : List (List UInt8)) (rs : List (Int × Int × List Int)) (x y : Int) (w : World) (e : Ending) (w' : World) : Prop :=
  Fr No w w' ∧ ∃ b : Bool, e = .returned (.bool b) ∧ (b = true ↔ RelatedIs s ns rs x y)

set_option maxRecDepth 100000 in
set_option maxHeartbeats 4000000 in
theorem related_any (w : World) (s : List UInt8) (N A : Option Addr) (nc rc : Nat) (ns : List (List UInt8)) (rs : List (Int × Int × List Int)) (x y : Int) (hs : s.length ≤ maxLen) (hN : SSl w N ns) (hA : Rels w A rs) (hl : ns.length ≤ 1048576) (hl' : rs.length ≤ 1048576) (hnl : ∀ x ∈ ns, x.length ≤ maxLen) (hT : TZt w) :
    Calls Tryz.prog 10 #[S s, .slice N ns.length nc, .slice A rs.length rc, .int .i64 x, .int .i64 y] w fun e w' => RtdP s ns rs x y w e w' := by
  have RL := Lib.hid (readLifted_any w s N A nc rc ns rs hs hN hA hl hl' hnl hT)
  clear hs hN hA hl hl' hnl hT
  go_enter Tryz.func10, Tryz.ntmps10
  go_wp2_with fail
  refine RL.out.mono ?_
  rintro e w1 ⟨hf1, ⟨t, ml, mr, c, c', P, F, hi, hsp, hk1, hk2, rfl, hlt, hlc, hF⟩ | ⟨hno, rfl⟩⟩
  · obtain ⟨gl, gr, d, d', vx, vy, vz, e1, e2, hP, ⟨s1, z1, a1, b1, hsl⟩, ⟨s2, z2, a2, b2, hsr⟩⟩ := hlt.sets
    have hcn := kn_cnt hk1
    have hcn' := kn_cnt hk2
    rw [hcn] at e1
    rw [hcn'] at e2
    injection e1 with e1
    injection e2 with e2
    subst e1 e2
    have HIF : Hid (RelatedIs s ns rs x y ↔ ∃ xn yn : Nat, x = xn ∧ y = yn ∧ xn < c ∧ yn < c' ∧ relT (szs ml) (szs mr) (rhoL mr (pss rs)) t xn yn = true) := relatedIs_iff hi hsp hk1 hk2
    have p0 : w1.cell? ⟨P, 0, none⟩ = some (Ptr gl) := (hP.cell 0).trans rfl
    have p1 : w1.cell? ⟨P, 1, none⟩ = some (Ptr gr) := (hP.cell 1).trans rfl
    have lP := hP.lt
    have HS1 := Lib.hid (has_set w1 gl s1 z1 a1 b1 c x hsl)
    have HS2 := Lib.hid (has_set w1 gr s2 z2 a2 b2 c' y hsr)
    have HF1 := Lib.hid hf1
    have HLT := Lib.hid hlt
    have HLC := Lib.hid hlc
    have HIN := Lib.hid hF
    have HSP := Lib.hid hsp
    have HC := Lib.hid (And.intro hcn hcn')
    clear hf1 hlt hlc hF hsp hi hk1 hk2 hcn hcn' hP hsl hsr RL
    have HNO : Hid (¬ (0 ≤ x ∧ x < (c : Int)) ∨ ¬ (0 ≤ y ∧ y < (c' : Int)) → RtdP s ns rs x y w (.returned (.bool false)) w1) := fun h => ⟨HF1.out, false, rfl, by
      rw [HIF.out]
      constructor
      · intro h; cases h
      · rintro ⟨xn, yn, q1, q2, q3, q4, _⟩
        rcases h with h | h
        · exact (h ⟨by omega, by omega⟩).elim
        · exact (h ⟨by omega, by omega⟩).elim⟩
    by_cases hx : 0 ≤ x ∧ x < (c : Int)
    · have hxd : decide (0 ≤ x ∧ x < (c : Int)) = true := decide_eq_true hx
      rw [hxd] at HS1
      clear hxd
      go_wp2_with fail
      refine HS1.out.mono ?_
      rintro e w2 ⟨rfl, rfl⟩
      by_cases hy : 0 ≤ y ∧ y < (c' : Int)
      · have hyd : decide (0 ≤ y ∧ y < (c' : Int)) = true := decide_eq_true hy
        rw [hyd] at HS2
        clear hyd
        go_wp2_with fail
        refine HS2.out.mono ?_
        rintro e w2 ⟨rfl, rfl⟩
        obtain ⟨xN, rfl⟩ : ∃ xN : Nat, x = xN := ⟨x.toNat, by omega⟩
        obtain ⟨yN, rfl⟩ : ∃ yN : Nat, y = yN := ⟨y.toNat, by omega⟩
        have hyl : yN < c' := by omega
        have RW := Lib.hid (row_any HSP.out.ol.sz HSP.out.or.sz F t No w1 P xN c c' (fun g h => h.elim) HLC.out HLT.out HC.out.1 HC.out.2 (by omega))
        have hc4 := (t.cnt_bounds HSP.out.or.sz c' HC.out.2).2
        have HHY := Lib.hid (And.intro hyl hc4)
        have HXL : Hid (xN < c) := by show xN < c; omega
        clear hx hy hyl hc4
        go_wp2_with fail
        refine RW.out.mono ?_
        rintro e w2 ⟨v, rfl, ⟨g, ws, rfl, h1, h2, _⟩, _, h4⟩
        have BH := Lib.hid (bsHas_any w2 g ws c' yN _ h1 h2 HHY.out.1 (by have := HHY.out.2; omega))
        obtain ⟨bb, hbb⟩ : ∃ bb, relT (szs ml) (szs mr) (rhoL mr (pss rs)) t xN yN = bb := ⟨_, rfl⟩
        rw [hbb] at BH
        have HE : Hid (RtdP s ns rs xN yN w (.returned (.bool bb)) w2) := ⟨HF1.out.then_ h4 (fun i hi h => by have := HIN.out i h; omega), bb, rfl, by
          rw [HIF.out]
          constructor
          · intro h
            subst h
            exact ⟨xN, yN, rfl, rfl, HXL.out, HHY.out.1, hbb⟩
          · rintro ⟨xn, yn, q1, q2, q3, q4, q5⟩
            have q1 : xN = xn := by omega
            have q2 : yN = yn := by omega
            subst q1 q2
            rw [← hbb]; exact q5⟩
        clear h1 h2 h4 hbb RW
        go_wp2_with fail
        refine BH.out.mono ?_
        rintro e w3 ⟨rfl, rfl⟩
        go_wp2_with fail
        go_ret
        exact HE.out
      · have hyd : decide (0 ≤ y ∧ y < (c' : Int)) = false := decide_eq_false hy
        rw [hyd] at HS2
        have HE := Lib.hid (HNO.out (.inr hy))
        clear hyd hx hy
        go_wp2_with fail
        refine HS2.out.mono ?_
        rintro e w2 ⟨rfl, rfl⟩
        go_wp2_with fail
        go_ret
        exact HE.out
    · have hxd : decide (0 ≤ x ∧ x < (c : Int)) = false := decide_eq_false hx
      rw [hxd] at HS1
      have HE := Lib.hid (HNO.out (.inl hx))
      clear hxd hx
      go_wp2_with fail
      refine HS1.out.mono ?_
      rintro e w2 ⟨rfl, rfl⟩
      go_wp2_with fail
      go_ret
      exact HE.out
  · have HE : Hid (RtdP s ns rs x y w (.returned (.bool false)) w1) := ⟨hf1, false, rfl, by
      constructor
      · intro h; cases h
      · rintro ⟨t', ml', mr', d, d', xn, yn, g1, g2, g3, g4, g5⟩
        exact (hno t' ml' mr' d d' g1 g2 g3 g4).elim⟩
    clear hf1 hno RL
    go_wp2_with fail
    go_ret
    exact HE.out
end Go.Proofs.YtloecimlimoanaaGreatDoor
