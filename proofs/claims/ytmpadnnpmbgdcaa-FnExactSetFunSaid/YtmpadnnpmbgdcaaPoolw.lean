import Derived.Test.YtmpadnnpmbgdcaaShare
import Derived.BigQuiet
import Derived.Deep.QuietTactic
import Derived.StillTailTactics
namespace Go.Proofs.Ytmpadnnpmbgdcaa
open Go.RowKit Go.ChangeMaps

/-- The pool has grown; its new nodes are new blocks. -/
structure Grew (B : Nat) (ps : List Nat) (D : List Ty) (ps' : List Nat) (D' : List Ty) : Prop where
  pre : ∃ X Y, ps' = ps ++ X ∧ D' = D ++ Y ∧ ∀ p ∈ X, B ≤ p

theorem Grew.refl (B : Nat) (ps : List Nat) (D : List Ty) : Grew B ps D ps D := ⟨[], [], by simp, by simp, by simp⟩
theorem Grew.trans {B B' : Nat} {ps ps' ps'' : List Nat} {D D' D'' : List Ty} (h : Grew B ps D ps' D') (h' : Grew B' ps' D' ps'' D'') (hB : B ≤ B') : Grew B ps D ps'' D'' := by
  obtain ⟨X, Y, rfl, rfl, hx⟩ := h.pre
  obtain ⟨X', Y', rfl, rfl, hx'⟩ := h'.pre
  refine ⟨X ++ X', Y ++ Y', by simp, by simp, fun p hp => ?_⟩
  rcases List.mem_append.1 hp with hp | hp
  · exact hx p hp
  · exact Nat.le_trans hB (hx' p hp)
theorem Grew.mono {B B' : Nat} {ps ps' : List Nat} {D D' : List Ty} (h : Grew B ps D ps' D') (hB : B' ≤ B) : Grew B' ps D ps' D' := by
  obtain ⟨X, Y, h1, h2, hx⟩ := h.pre
  exact ⟨X, Y, h1, h2, fun p hp => Nat.le_trans hB (hx p hp)⟩
theorem Grew.getD {B : Nat} {ps ps' : List Nat} {D D' : List Ty} (h : Grew B ps D ps' D') {i : Nat} {t : Ty} (hi : D[i]? = some t) : D'[i]? = some t := by
  obtain ⟨X, Y, rfl, rfl, _⟩ := h.pre; exact getElem?_more hi
theorem Grew.getp {B : Nat} {ps ps' : List Nat} {D D' : List Ty} (h : Grew B ps D ps' D') {i : Nat} {p : Nat} (hi : ps[i]? = some p) : ps'[i]? = some p := by
  obtain ⟨X, Y, rfl, rfl, _⟩ := h.pre; exact getElem?_more hi

/-- Pointer p is type t of the pool. -/
def Has (ps : List Nat) (D : List Ty) (t : Ty) (p : Nat) : Prop := ∃ i : Nat, D[i]? = some t ∧ ps[i]? = some p

theorem Has.grew {B : Nat} {ps ps' : List Nat} {D D' : List Ty} {t : Ty} {p : Nat} (h : Has ps D t p) (hg : Grew B ps D ps' D') : Has ps' D' t p := by
  obtain ⟨i, h1, h2⟩ := h
  exact ⟨i, hg.getD h1, hg.getp h2⟩
theorem Has.mem {ps : List Nat} {D : List Ty} {t : Ty} {p : Nat} (h : Has ps D t p) : t ∈ D := by
  obtain ⟨i, h1, _⟩ := h; exact List.mem_of_getElem? h1
theorem Has.memp {ps : List Nat} {D : List Ty} {t : Ty} {p : Nat} (h : Has ps D t p) : p ∈ ps := by
  obtain ⟨i, _, h1⟩ := h; exact List.mem_of_getElem? h1

/-- What a call hands back that makes a type t of a pool. -/
structure Made (w : World) (q m : Nat) (ps : List Nat) (D : List Ty) (t : Ty) (e : Ending) (w' : World) (ps' : List Nat) (D' : List Ty) (p : Nat) : Prop where
  ret : e = .returned (Ptr p)
  pool : Pool w' q m ps' D'
  grew : Grew w.heap.size ps D ps' D'
  has : Has ps' D' t p
  fr : Fr (One m) w w'

def MadeAny (w : World) (q m : Nat) (ps : List Nat) (D : List Ty) (t : Ty) (e : Ending) (w' : World) : Prop := ∃ ps' D' p, Made w q m ps D t e w' ps' D' p

theorem share_any (w : World) (q m : Nat) (ps : List Nat) (D : List Ty) (t : Ty) (s : List UInt8) (a b nu sz : Int) (x y : Value) (h : Pool w q m ps D) (hr : Ready D t) (hk : KeyOf D t ⟨s, a, b⟩) (hxy : Kids ps D t x y)
    (hs : sgn t = s) (hnu : num t = nu) (hsz : (t.size : Int) = sz) :
    Calls Try.prog 83 #[Ptr q, .agg #[S s, .int .i64 a, .int .i64 b], .agg #[S [], .int .i64 nu, x, y, .int .i64 sz, .int .i64 0]] w
      fun e w' => MadeAny w q m ps D t e w' := by
  obtain ⟨f, hm, hf1, hf2⟩ := h.map
  by_cases ht : t ∈ D
  · obtain ⟨i, hi⟩ := List.getElem?_of_mem ht
    have hl := (List.getElem?_eq_some_iff.1 hi).1
    have hp : ps[i]? = some (ps[i]'(by rw [h.len]; exact hl)) := List.getElem?_eq_getElem _
    refine (share_old w q m D.length _ f s a b nu sz x y _ h.head hm (hf1 i t _ _ hi hp hk)).mono ?_
    rintro e w' ⟨rfl, hfr⟩
    have hnm := h.not_map
    exact ⟨ps, D, _, rfl, h.fr hfr (fun h => h) (fun h => h) (fun _ _ h => h), Grew.refl _ _ _, ⟨i, hi, hp⟩, hfr.mono (fun _ _ h => h.elim)⟩
  · have hf : f ⟨s, a, b⟩ = none := by
      rcases hf : f ⟨s, a, b⟩ with _ | v
      · rfl
      · obtain ⟨i, t', p', g1, g2, g3, _⟩ := hf2 _ _ hf
        exact absurd (g3.inj hk ▸ List.mem_of_getElem? g1) ht
    refine (share_new w q m D.length _ f s a b nu sz x y h.head hm hf).mono ?_
    rintro e w' ⟨rfl, hfr, hsize, hmap, hblk⟩
    have hnm := h.not_map
    refine ⟨ps ++ [w.heap.size + 1], D ++ [t], _, rfl, ?_, ⟨[_], [_], rfl, rfl, by simp⟩, ⟨D.length, by simp, by rw [← h.len]; simp⟩, hfr⟩
    subst hs; subst hnu; subst hsz
    exact h.push ht hr hblk hxy (hfr.block q h.head.lt hnm.1) (fun k hk => hfr.block k (h.lt hk) (fun e => by subst e; exact hnm.2 hk)) hk hf1 hf2 hmap

set_option maxHeartbeats 400000 in
theorem truth_any (w : World) (q m : Nat) (ps : List Nat) (D : List Ty) (h : Pool w q m ps D) :
    Calls Try.prog 81 #[Ptr q] w fun e w' => MadeAny w q m ps D .o e w' := by
  go_enter Try.func81, Try.ntmps81
  go_wp2_with fail
  refine (share_any w q m ps D .o [111] 0 0 0 1 _ _ h trivial rfl ⟨rfl, rfl⟩ rfl rfl rfl).mono ?_
  rintro e w' ⟨ps', D', p, hm⟩
  obtain rfl := hm.ret
  go_wp2
  go_ret
  exact ⟨ps', D', p, hm⟩

set_option maxHeartbeats 400000 in
theorem variable_any (w : World) (q m : Nat) (ps : List Nat) (D : List Ty) (n : Nat) (h : Pool w q m ps D) :
    Calls Try.prog 79 #[Ptr q, .int .i64 n] w fun e w' => MadeAny w q m ps D (.v n) e w' := by
  go_enter Try.func79, Try.ntmps79
  go_wp2_with fail
  refine (share_any w q m ps D (.v n) [] n 0 n 1 _ _ h trivial rfl ⟨rfl, rfl⟩ rfl rfl rfl).mono ?_
  rintro e w' ⟨ps', D', p, hm⟩
  obtain rfl := hm.ret
  go_wp2
  go_ret
  exact ⟨ps', D', p, hm⟩

set_option maxRecDepth 20000 in
set_option maxHeartbeats 400000 in
theorem parts_any (w : World) (q m : Nat) (ps : List Nat) (D : List Ty) (f : Bool) (l r : Ty) (pl pr : Nat) (h : Pool w q m ps D) (hl : Has ps D l pl) (hr : Has ps D r pr) (hsz : l.size + r.size ≤ 1000000) :
    Calls Try.prog 65 #[Ptr q, S [Ty.sign f], Ptr pl, Ptr pr] w fun e w' => MadeAny w q m ps D (.n f l r) e w' := by
  obtain ⟨il, hil, hpl⟩ := hl
  obtain ⟨ir, hir, hpr⟩ := hr
  obtain ⟨x, y, bl, _⟩ := h.node il l pl hil hpl
  obtain ⟨x', y', br, _⟩ := h.node ir r pr hir hpr
  have c1 : w.cell? ⟨pl, 5, none⟩ = some (.int .i64 il) := (bl.cell 5).trans rfl
  have c2 : w.cell? ⟨pr, 5, none⟩ = some (.int .i64 ir) := (br.cell 5).trans rfl
  have c3 : w.cell? ⟨pl, 4, none⟩ = some (.int .i64 l.size) := (bl.cell 4).trans rfl
  have c4 : w.cell? ⟨pr, 4, none⟩ = some (.int .i64 r.size) := (br.cell 4).trans rfl
  have g1 := bl.lt
  have g2 := br.lt
  clear bl br
  have hP : ∀ o : Obj, Pool ((w.alloc o).drew.drew) q m ps D := fun o => h.fr ((((Fr.refl No w).alloc o).drew).drew) (fun h => h) (fun h => h) (fun _ _ h => h)
  have HP := Lib.hid hP
  clear hP
  have b1 : (0 : Int) ≤ (l.size : Int) := by omega
  have b2 : (0 : Int) ≤ (r.size : Int) := by omega
  have b3 : (l.size : Int) + (r.size : Int) ≤ 1000000 := by omega
  have hready : Ready D (.n f l r) := ⟨List.mem_of_getElem? hil, List.mem_of_getElem? hir⟩
  have hkey : KeyOf D (.n f l r) ⟨[Ty.sign f], il, ir⟩ := ⟨il, ir, hil, hir, rfl⟩
  have hkids : Kids ps D (.n f l r) (Ptr pl) (Ptr pr) := ⟨il, ir, pl, pr, hil, hir, hpl, hpr, rfl, rfl⟩
  have hsz : ((Ty.n f l r).size : Int) = 1 + (l.size : Int) + (r.size : Int) := by simp [Ty.size]
  have Hsz := Lib.hid hsz
  clear hsz hil hir hpl hpr
  go_enter Try.func65, Try.ntmps65
  go_wp2_with fail
  go_region
  all_goals go_wp2_with fail
  have hw1 : IntKind.i64.wrap (1 + (l.size : Int)) = 1 + (l.size : Int) := IntWalk.i64_in _ (by omega)
  have hw2 : IntKind.i64.wrap (1 + (l.size : Int) + (r.size : Int)) = 1 + (l.size : Int) + (r.size : Int) := IntWalk.i64_in _ (by omega)
  refine wp_region_still_tail 15 (by kernel_rfl) (by kernel_rfl) ?_
  change wpStill _ _ (World.drew _) (fun a' => wpList _ _ _ _ a' (World.drew _)) _ _
  simp only [List.take_succ_cons, List.take_zero, List.drop_succ_cons, List.drop_zero]
  repeat still_step
  refine wpStill_nil ?_
  clear hw1 hw2
  go_wp2_with fail
  refine (share_any _ q m ps D (.n f l r) [Ty.sign f] il ir 0 (1 + (l.size : Int) + (r.size : Int)) (Ptr pl) (Ptr pr) (HP.out _) hready hkey hkids rfl rfl Hsz.out).mono ?_
  rintro e w' ⟨ps', D', p, hm⟩
  obtain rfl := hm.ret
  go_wp2
  go_ret
  refine ⟨ps', D', p, rfl, hm.pool, hm.grew.mono (by simp), hm.has, ?_⟩
  exact ((((Fr.refl (One m) w).alloc _).drew).drew).trans hm.fr
end Go.Proofs.Ytmpadnnpmbgdcaa
