/- The law FnAt: functions are told by their elements. -/
import Derived.Test.YtngbpcphkfmncaaLawM0
import Derived.Test.YtngbpcphkfmncaaLaw3
import Derived.Test.YtngbpcphkfmncaaFun
import Derived.Deep.AppendLies
namespace Go.Proofs.Ytngbpcphkfmncaa
open Go.RowKit Go.ChangeMaps

def DrP2 (w : World) (e : Ending) (w' : World) : Prop :=
  ∃ s N nc Z zc, ∃ (xs : List (List UInt8)) (zs : List Int) (k q : Int), e = .returned (.tuple #[S s, .slice N xs.length nc, .slice Z zs.length zc, .int .i64 k, .int .i64 q]) ∧ s.length ≤ 1300 ∧ -1 ≤ k ∧ k ≤ 5000 ∧ -1 ≤ q ∧ q ≤ 3 ∧ xs.length ≤ nc ∧ xs.length ≤ 4 ∧ zs.length ≤ 4 ∧ (∀ x ∈ xs, x.length ≤ 1) ∧ SSl w' N xs ∧ ISl w' Z zs ∧ Fr No w w'

theorem parts_is {f : Bool} {l r : Ty} {s : List UInt8} (h : Ty.Is s (.n f l r)) : Ty.Is l.text l ∧ Ty.Is r.text r := by
  have h1 := h.2.1
  have h2 := h.2.2
  simp only [Ty.lets, Ty.size] at h1 h2
  exact ⟨⟨rfl, h1.1, by omega⟩, ⟨rfl, h1.2, by omega⟩⟩

theorem div_pow_succ (k b i : Nat) : k / b ^ (i + 1) = k / b / b ^ i := by rw [Nat.pow_succ, Nat.mul_comm, Nat.div_div_eq_div_mul]

/-- the digits of k -/
def kdig (b k m : Nat) : List Int := (List.range m).map fun i => ((k / b ^ i % b : Nat) : Int)

theorem kdig_len (b k m : Nat) : (kdig b k m).length = m := by simp [kdig]
theorem kdig_more (b k m : Nat) : kdig b k (m + 1) = kdig b k m ++ [((k / b ^ m % b : Nat) : Int)] := by simp [kdig, List.range_succ]
theorem kdig_at {b k m q : Nat} (h : q < m) : (kdig b k m)[q]? = some ((k / b ^ q % b : Nat) : Int) := by simp [kdig, h]
theorem kdig_ok {b k m : Nat} (hb : 1 ≤ b) : LstOk (kdig b k m) m b := ⟨kdig_len b k m, fun z hz => by
  obtain ⟨i, _, rfl⟩ := List.mem_map.1 hz
  have := Nat.mod_lt (k / b ^ i) (show 0 < b by omega)
  omega⟩
theorem kdig_un {b : Nat} (hb : 1 ≤ b) : ∀ (m k : Nat), k < b ^ m → undI b (kdig b k m) = k
  | 0, k, h => by simp at h; subst h; rfl
  | m + 1, k, h => by
    have e : kdig b k (m + 1) = ((k % b : Nat) : Int) :: kdig b (k / b) m := by
      simp only [kdig, List.range_succ_eq_map, List.map_cons, List.map_map, Nat.pow_zero, Nat.div_one, List.cons.injEq, true_and]
      refine List.map_congr_left fun i _ => ?_
      simp only [Function.comp_apply, Nat.succ_eq_add_one]
      rw [div_pow_succ]
    have h2 : k / b < b ^ m := by
      rw [Nat.div_lt_iff_lt_mul (by omega)]
      rwa [Nat.pow_succ] at h
    have ih := kdig_un hb m (k / b) h2
    unfold undI at ih ⊢
    rw [e, List.map_cons, undig, ih, Int.toNat_natCast]
    have := Nat.div_add_mod k b
    rw [Nat.mul_comm] at this
    exact this

theorem un_at {b : Nat} : ∀ {lst : List Int} {i : Nat} {z : Int}, (∀ z ∈ lst, 0 ≤ z ∧ z < (b : Int)) → lst[i]? = some z → ((undI b lst / b ^ i % b : Nat) : Int) = z
  | [], i, z, _, h => by simp at h
  | y :: ys, 0, z, hok, h => by
    simp at h
    subst h
    have := hok y (by simp)
    unfold undI
    rw [List.map_cons, undig, Nat.pow_zero, Nat.div_one, Nat.mul_add_mod_self_right, Nat.mod_eq_of_lt (by omega)]
    omega
  | y :: ys, i + 1, z, hok, h => by
    have hy := hok y (by simp)
    have ih := un_at (b := b) (lst := ys) (i := i) (z := z) (fun z hz => hok z (by simp [hz])) (by simpa using h)
    rw [← ih]
    unfold undI
    rw [div_pow_succ, List.map_cons, undig]
    have e : (undig b (ys.map Int.toNat) * b + y.toNat) / b = undig b (ys.map Int.toNat) := by
      rw [Nat.mul_comm, Nat.mul_add_div (by omega), Nat.div_eq_of_lt (by omega), Nat.add_zero]
    rw [e]

theorem un_lt {b a : Nat} {lst : List Int} (h : LstOk lst a b) : undI b lst < b ^ a := by
  have := undig_lt (n := b) (ds := lst.map Int.toNat) (fun d hd => by
    obtain ⟨z, hz, rfl⟩ := List.mem_map.1 hd
    have := h.2 z hz
    omega)
  rw [List.length_map, h.1] at this
  exact this

theorem rowNo {w w' : World} {B n k : Nat} {t : TypeId} {v : Value} {xs : List Value} (h : w.ownsRow B t n v k xs) (hf : Fr No w w') : w'.ownsRow B t n v k xs := by
  refine ⟨h.1, ?_⟩
  rcases h.2 with h | ⟨g, cap, cur, hv, h2, h3, h4⟩
  · exact .inl h
  · exact .inr ⟨g, cap, cur, hv, h2, (hf.block g (Array.getElem?_eq_some_iff.1 h3).1 (fun h => h)).trans h3, h4⟩

set_option maxRecDepth 100000 in
set_option maxHeartbeats 2000000 in
theorem drawSAt (w : World) (A : Option Addr) (n c : Nat) (hn : n ≤ maxLen) (hnc : n ≤ c) (hb : Byt w A n) :
    Calls Try.prog 24 #[.slice A n c] w fun e w' => DrP2 w e w' := by
  have OP := Lib.hid (open_any w A n c hn hnc hb)
  clear hb
  go_enter Try.func24, Try.ntmps24
  go_wp2_with fail
  refine OP.out.mono ?_
  rintro e w1 ⟨r, A1, n1, c1, rfl, hf1, hr1, hd1⟩
  have HF1 := Lib.hid hf1
  have HR1 := Lib.hid hr1
  have HG1 : Hid (Fr (One r) w w1) := hf1.mono (fun _ _ h => h.elim)
  have TX := Lib.hid (text_draw w1 r A1 n1 c1 0 hd1 (by omega))
  clear hf1 hr1 hd1
  go_wp2_with fail
  refine TX.out.mono ?_
  rintro e w2 ⟨t, p2, rfl, hs, hf2, hp2, hd2⟩
  have HG2 : Hid (Fr (One r) w w2) := HG1.out.trans hf2
  have OF : Hid (Calls Try.prog 51 #[Ptr r, .slice (some ⟨w2.heap.size, 0, none⟩) 5 5] (w2.alloc (.cells #[.string ⟨#[40, 62, 32, 97, 32, 98, 41]⟩, .string ⟨#[40, 62, 32, 111, 32, 97, 41]⟩, .string ⟨#[40, 62, 32, 97, 32, 40, 62, 32, 97, 32, 97, 41, 41]⟩, .string ⟨#[40, 62, 32, 40, 42, 32, 97, 32, 111, 41, 32, 97, 41]⟩, S t] 9)) fun e w' => ∃ x, e = .returned (S x) ∧ x ∈ _ ∧ x.length ≤ 1300 ∧ Fr (One r) w2 w' ∧ Rdc w' r A1 n1 c1 (p2 + 1)) :=
    of_lit w2 r A1 n1 c1 p2 1300 5 [[40, 62, 32, 97, 32, 98, 41], [40, 62, 32, 111, 32, 97, 41], [40, 62, 32, 97, 32, 40, 62, 32, 97, 32, 97, 41, 41], [40, 62, 32, 40, 42, 32, 97, 32, 111, 41, 32, 97, 41], t] _ rfl rfl hd2 (by omega) (by omega) (by omega) (by simp; omega)
  clear hf2 hd2
  go_wp2_with fail
  refine OF.out.mono ?_
  rintro e w3 ⟨s, rfl, _, hs', hf3, hd3⟩
  have HG3 : Hid (Fr (One r) w w3) := HG2.out.trans hf3
  have MD := Lib.hid (model_draw w3 r A1 n1 c1 (p2 + 1) hd3 (by omega))
  have hrw := hd3.blk.lt
  clear hf3 hd3 OF
  go_wp2_with fail
  refine MD.out.mono ?_
  rintro e w4 ⟨N, nc, Z, zc, xs, zs, p4, rfl, h1, h2, h3, h4, h5, h6, hnw, hf4, hp4, hd4⟩
  have HG4 : Hid (Fr (One r) w w4) := HG3.out.trans hf4
  clear MD
  have HN := Lib.hid h5
  have HZ := Lib.hid h6
  have EL := Lib.hid (elem_draw w4 r A1 n1 c1 p4 hd4 (by omega) s (by unfold maxLen; omega) N Z xs zs nc zc h1 h5 h6 h2 h3 h4)
  clear hf4 hd4 h5 h6
  go_wp2_with fail
  refine EL.out.mono ?_
  rintro e w5 ⟨k, p5, rfl, hk1, hk2, hf5, hp5, hd5⟩
  have HG5 : Hid (Fr (One r) w w5) := HG4.out.trans hf5
  have HX5 : Hid (SSl w5 N xs ∧ ISl w5 Z zs) := ⟨sslFr HN.out hf5 (fun g o e e2 => by have e2 : g = r := e2; have := hnw g o (.inl e); omega), islFr HZ.out hf5 (fun g o e e2 => by have e2 : g = r := e2; have := hnw g o (.inr e); omega)⟩
  clear EL
  have hrw5 := hd5.blk.lt
  have PK1 := Lib.hid (pick_any w5 r A1 n1 c1 p5 3 hd5 (by omega) (by omega) (by omega))
  clear hf5 hd5
  go_wp2_with fail
  refine PK1.out.mono ?_
  rintro e w6 ⟨y, rfl, hy, hf6, hd6⟩
  have HG6 : Hid (Fr (One r) w w6) := HG5.out.trans hf6
  have HX6 : Hid (SSl w6 N xs ∧ ISl w6 Z zs) := ⟨sslFr HX5.out.1 hf6 (fun g o e e2 => by have e2 : g = r := e2; have := hnw g o (.inl e); omega), islFr HX5.out.2 hf6 (fun g o e e2 => by have e2 : g = r := e2; have := hnw g o (.inr e); omega)⟩
  have PK2 := Lib.hid (pick_any w6 r A1 n1 c1 (p5 + 1) 20 hd6 (by omega) (by omega) (by omega))
  clear hf6 hd6
  go_wp2_with fail
  refine PK2.out.mono ?_
  rintro e w7 ⟨z, rfl, hz, hf7, hd7⟩
  have HG7 : Hid (Fr (One r) w w7) := HG6.out.trans hf7
  have HX7 : Hid (SSl w7 N xs ∧ ISl w7 Z zs) := ⟨sslFr HX6.out.1 hf7 (fun g o e e2 => by have e2 : g = r := e2; have := hnw g o (.inl e); omega), islFr HX6.out.2 hf7 (fun g o e e2 => by have e2 : g = r := e2; have := hnw g o (.inr e); omega)⟩
  have hq1 : ((z : Int)).tdiv 19 = (z : Int) / 19 := Int.tdiv_eq_ediv_of_nonneg (by omega)
  have hz0 : (0 : Int) ≤ (z : Int) := by omega
  have hz1 : (z : Int) ≤ 19 := by omega
  have hq2 : (z : Int) / 19 ≤ 1 := by omega
  have hq3 : 0 ≤ (z : Int) / 19 := by omega
  have hy1 : (y : Int) ≤ 2 := by omega
  have FIN : Hid (DrP2 w (.returned (.tuple #[S s, .slice N xs.length nc, .slice Z zs.length zc, .int .i64 k, .int .i64 ((y : Int) - (z : Int) / 19)])) w7) := ⟨s, N, nc, Z, zc, xs, zs, k, _, rfl, hs', hk1, hk2, by omega, by omega, h1, h2, h3, h4, HX7.out.1, HX7.out.2, (HG7.out.mono (fun i hi e => by unfold One at e; have := HR1.out; omega))⟩
  clear hf7 hd7 h1 h2 h3 h4 hnw
  go_wp2_with fail
  refine bodyPost_ret (v := .tuple #[S s, .slice N xs.length nc, .slice Z zs.length zc, .int .i64 k, .int .i64 ((y : Int) - (z : Int) / 19)]) (by simp [results, Try.results24, go_sem]) rfl ?_
  exact FIN.out

theorem info_parts_i : ∃ i0, Try.prog.info? 3 = some i0 ∧ i0.zero = some (.int .i64 0) ∧ i0.size = 1 ∧ i0.bytes = 8 := by
  have h := info_int
  cases hi : Try.prog.info? 3 with
  | none => rw [hi] at h; cases h
  | some i0 =>
    rw [hi] at h
    simp only [Option.map_some, Option.some.injEq, Prod.mk.injEq] at h
    exact ⟨i0, rfl, h.1, h.2.1, h.2.2⟩

set_option maxRecDepth 100000 in
set_option maxHeartbeats 4000000 in
theorem lawPAt (w : World) (A : Option Addr) (n c : Nat) (hn : n ≤ maxLen) (hnc : n ≤ c) (hb : Byt w A n) :
    Calls Try.prog 7 #[.slice A n c] w fun e w' => Yes w e w' := by
  have DR := Lib.hid (drawSAt w A n c hn hnc hb)
  clear hb
  have hn' := hn
  unfold maxLen at hn'
  by_cases hl : 1048576 < n
  · have hd : decide ((1048576 : Int) < (n : Int)) = true := by simp; omega
    go_enter Try.func7, Try.ntmps7
    go_wp2_with fail
    go_ret
    exact ⟨rfl, Fr.refl _ _⟩
  have hd : decide ((1048576 : Int) < (n : Int)) = false := by simp; omega
  clear hl
  go_enter Try.func7, Try.ntmps7
  go_wp2_with fail
  refine DR.out.mono ?_
  rintro e w1 ⟨s, N, nc, Z, zc, xs, zs, k, q, rfl, hs, hk1, hk2, hq1, hq2, h1, h2, h3, h4, h5, h6, hf1⟩
  have HF1 := Lib.hid hf1
  have HN := Lib.hid h5
  have HZ := Lib.hid h6
  have hxm : ∀ x ∈ xs, x.length ≤ maxLen := fun x hx => by have := h4 x hx; unfold maxLen; omega
  have SC : Hid (∀ (x : List UInt8) W, x.length ≤ 1300 → Fr No w1 W → Calls Try.prog 17 #[S x, .slice N xs.length nc, .slice Z zs.length zc] W fun e w' => AnsStc x xs zs W e w') := fun x W hx hf => implStc W x N Z xs zs nc zc (by unfold maxLen; omega) (sslNo HN.out hf) (islNo HZ.out hf) (by omega) (by omega) hxm
  have PT : Hid (∀ W, Calls Try.prog 20 #[S s] W fun e w' => AnsParts s W e w') := fun W => implParts W s (by unfold maxLen; omega)
  have IA : Hid (∀ (q : Int) W, Fr No w1 W → Calls Try.prog 25 #[S s, .slice N xs.length nc, .slice Z zs.length zc, .int .i64 k, .int .i64 q] W fun e w' => AnsAt s xs zs k q W e w') := fun q W hf => implAt W s N Z xs zs nc zc k q (by unfold maxLen; omega) (sslNo HN.out hf) (islNo HZ.out hf) (by omega) (by omega) hxm
  have SA : Hid (∀ W, Fr No w1 W → Calls Try.prog 26 #[S s, .slice N xs.length nc, .slice Z zs.length zc, .int .i64 k, .int .i64 q] W fun e w' => AnsAt s xs zs k q W e w') := fun W hf => specAt W s N Z xs zs nc zc k q h1 (by unfold maxLen; omega) (sslNo HN.out hf) (islNo HZ.out hf) (by omega) (by omega) hxm
  have IF : Hid (∀ (lst : List Int) (L : Option Addr) (lc : Nat) W, Fr No w1 W → ISl W L lst → lst.length ≤ 4096 → Calls Try.prog 27 #[S s, .slice N xs.length nc, .slice Z zs.length zc, .slice L lst.length lc] W fun e w' => AnsFun s xs zs lst W e w') := fun lst L lc W hf hL hl => implFun W s N Z L xs zs lst nc zc lc (by unfold maxLen; omega) (sslNo HN.out hf) (islNo HZ.out hf) hL (by omega) (by omega) (by omega) hxm
  clear hf1 h5 h6 h1 hxm HN HZ
  go_wp2_with fail
  refine (IA.out q w1 (Fr.refl _ _)).mono ?_
  rintro e w2 ⟨x, ok, rfl, hpr, hf2⟩
  have HF2 := Lib.hid hf2
  have SM : Hid (∀ W, Fr No w1 W → Calls Try.prog 26 #[S s, .slice N xs.length nc, .slice Z zs.length zc, .int .i64 k, .int .i64 q] W fun e w' => e = .returned (.tuple #[.int .i64 x, .bool ok]) ∧ Fr No W w') := fun W hf => (SA.out W hf).mono (by
    rintro e w' ⟨x', ok', rfl, hpr', hf'⟩
    obtain ⟨rfl, rfl⟩ := hpr.one hpr'
    exact ⟨rfl, hf'⟩)
  have HPR := Lib.hid hpr
  clear hf2 hpr SA
  go_wp2_with fail
  refine (SM.out w2 HF2.out).mono ?_
  rintro e w3 ⟨rfl, hf3⟩
  have HF3 := Lib.hid (HF2.out.trans hf3)
  clear hf3
  clear SM
  cases ok with
  | false =>
    go_wp2_with fail
    go_ret
    exact ⟨rfl, HF1.out.trans HF3.out⟩
  | true =>
    obtain ⟨l, r, ms, a, b, d, kn, qn, hsf, rfl, rfl, hkd, hqa, hx⟩ : ∃ l r ms a b d, ∃ kn qn : Nat, SfIs s true xs zs l r ms a b d ∧ k = kn ∧ q = qn ∧ kn < d ∧ qn < a ∧ x = ((kn / b ^ qn % b : Nat) : Int) := by
      rcases HPR.out with ⟨l, r, ms, a, b, d, kn, qn, h1, h2, h3, h4, h5, h6, _⟩ | ⟨_, _, h⟩
      · exact ⟨l, r, ms, a, b, d, kn, qn, h1, h2, h3, h4, h5, h6⟩
      · cases h
    have HSF := Lib.hid hsf
    obtain ⟨hil, hir⟩ := parts_is hsf.1
    have hb := hsf.2.2.2.2.2.2.2.2.1
    have hb2 := hsf.2.2.2.2.2.2.2.2.2.1
    have ha2 := hsf.2.2.2.2.2.2.2.1
    have hdd : d = b ^ a := by have h := hsf.2.2.2.2.2.1; simpa using h
    have PTS : Hid (∀ W, Calls Try.prog 20 #[S s] W fun e w' => e = .returned (.tuple #[S l.text, S r.text, S [62], .bool true]) ∧ Fr No W w') := fun W => (PT.out W).mono (by
      rintro e w' ⟨x, y, sg, ok, rfl, ⟨f, l', r', hi, rfl, rfl, rfl, rfl⟩ | ⟨hno, _⟩, hf'⟩
      · have e := hi.unique HSF.out.1
        injection e with e1 e2 e3
        subst e1 e2 e3
        exact ⟨rfl, hf'⟩
      · exact (hno _ _ _ HSF.out.1).elim)
    have SL : Hid (∀ W, Fr No w1 W → Calls Try.prog 17 #[S l.text, .slice N xs.length nc, .slice Z zs.length zc] W fun e w' => e = .returned (.int .i64 (a : Int)) ∧ Fr No W w') := fun W hf => (SC.out l.text W (by have := hil.short; omega) hf).mono (by
      rintro e w' ⟨m', rfl, hst', hf'⟩
      rw [hst'.is hil HSF.out.2.1, cntI_some HSF.out.2.2.1]
      exact ⟨rfl, hf'⟩)
    have IAJ : Hid (∀ (j : Nat) W, j < a → Fr No w1 W → Calls Try.prog 25 #[S s, .slice N xs.length nc, .slice Z zs.length zc, .int .i64 (kn : Int), .int .i64 (j : Int)] W fun e w' => e = .returned (.tuple #[.int .i64 ((kn / b ^ j % b : Nat) : Int), .bool true]) ∧ Fr No W w') := fun j W hj hf => (IA.out (j : Int) W hf).mono (by
      rintro e w' ⟨x', ok', rfl, hpr', hf'⟩
      obtain ⟨rfl, rfl⟩ := (show AtR s xs zs kn j ((kn / b ^ j % b : Nat) : Int) true from .inl ⟨l, r, ms, a, b, d, kn, j, HSF.out, rfl, rfl, hkd, hj, rfl, rfl⟩).one hpr'
      exact ⟨rfl, hf'⟩)
    have IFF : Hid (∀ (L : Option Addr) (lc : Nat) W, Fr No w1 W → ISl W L (kdig b kn a) → Calls Try.prog 27 #[S s, .slice N xs.length nc, .slice Z zs.length zc, .slice L a lc] W fun e w' => e = .returned (.tuple #[.int .i64 (kn : Int), .bool true]) ∧ Fr No W w') := fun L lc W hf hL => by
      have h := IF.out (kdig b kn a) L lc W hf hL (by rw [kdig_len]; omega)
      rw [kdig_len] at h
      refine h.mono ?_
      rintro e w' ⟨x', ok', rfl, hpr', hf'⟩
      have hu := kdig_un hb a kn (by rw [← hdd]; exact hkd)
      obtain ⟨rfl, rfl⟩ := (show FunR s xs zs (kdig b kn a) (kn : Int) true from .inl ⟨l, r, ms, a, b, d, HSF.out, kdig_ok hb, by rw [hu], rfl⟩).one hpr'
      exact ⟨rfl, hf'⟩
    have HX : Hid ((kdig b kn a)[qn]? = some x) := by rw [hx]; exact kdig_at hqa
    clear hil hir hsf hx hdd hkd HPR SC PT IA IF
    generalize l.text = lt at SL PTS
    generalize r.text = rt at PTS
    go_wp2_with fail
    refine (PTS.out _).mono ?_
    rintro e w4 ⟨rfl, hf4⟩
    have HF4 := Lib.hid (HF3.out.trans hf4)
    clear hf4
    obtain ⟨i0, hi0, hz0, hz1, hz2⟩ := info_parts_i
    obtain ⟨W5, hW5, hf5, ho5⟩ : ∃ W, W = w4.alloc (.cells #[] 3) ∧ Fr No w4 W ∧ W.ownsRow w4.heap.size 3 1 (.slice (some ⟨w4.heap.size, 0, none⟩) 0 0) 0 ((kdig b kn 0).map (.int .i64)) := ⟨_, rfl, (Fr.refl _ _).alloc _, ⟨rfl, .inr ⟨_, 0, #[], rfl, Nat.le_refl _, Blk.new _ _ _, Nat.le_refl _, Nat.zero_le _, rfl, rfl⟩⟩⟩
    have HF5 := Lib.hid (HF4.out.trans hf5)
    have HS5 : w4.heap.size ≤ W5.heap.size := hf5.size
    have HO5 := Lib.hid ho5
    have HS4 : Hid (w1.heap.size ≤ w4.heap.size) := HF4.out.size
    clear hf5 ho5 PTS
    go_wp2_with fail
    rw [← hW5]
    clear hW5
    go_loopw [16, 17] (fun v u wr => ∃ (j cp : Nat) (B : Option Addr), j ≤ a ∧ u = .int .i64 j ∧ v = .slice B j cp ∧ (Fr No w1 wr ∧ w4.heap.size ≤ wr.heap.size) ∧ wr.ownsRow w4.heap.size 3 1 (.slice B j cp) j ((kdig b kn j).map (.int .i64))) (fun _ u _ => a - (intOf u).toNat)
    case atStart => exact ⟨0, 0, _, Nat.zero_le _, rfl, rfl, ⟨HF5.out, HS5⟩, HO5.out⟩
    case round =>
      obtain ⟨j, cp, B, hj, rfl, rfl, ⟨hfr, hsr⟩, hor⟩ := hrel
      have HFR := Lib.hid hfr
      have HO := Lib.hid hor
      clear hfr hor
      go_wp2_with fail
      refine (SL.out wr HFR.out).mono ?_
      rintro e w6 ⟨rfl, hf6⟩
      have HF6 := Lib.hid (HFR.out.trans hf6)
      have HO6 := Lib.hid (rowNo HO.out hf6)
      have hs6 : w4.heap.size ≤ w6.heap.size := Nat.le_trans hsr hf6.size
      clear hf6 HO HFR
      by_cases hlt : j < a
      · have hjI : (j : Int) < (a : Int) := by omega
        go_wp2_with fail
        refine (IAJ.out j w6 hlt HF6.out).mono ?_
        rintro e w7 ⟨rfl, hf7⟩
        have HF7 := Lib.hid (HF6.out.trans hf7)
        have HO7 := Lib.hid (rowNo HO6.out hf7)
        have hown := HO7.out
        have hs7 : w4.heap.size ≤ w7.heap.size := Nat.le_trans hs6 hf7.size
        clear hf7 HO6
        have ARM : Hid (∀ (v' : Value) (w8 : World), w8.ownsRow w4.heap.size 3 1 v' (j + 1) ((kdig b kn j).map (.int .i64) ++ [.int .i64 ((kn / b ^ j % b : Nat) : Int)]) → (w7.alloc (.cells #[.int .i64 ((kn / b ^ j % b : Nat) : Int)] 3)).grownBy w8 (Value.slice B j cp).ownBlock → ∃ g' cap', v' = .slice (some ⟨g', 0, none⟩) (j + 1) cap' ∧ Hid ((Fr No w1 w8 ∧ w4.heap.size ≤ w8.heap.size) ∧ w8.ownsRow w4.heap.size 3 1 (.slice (some ⟨g', 0, none⟩) (j + 1) cap') (j + 1) ((kdig b kn (j + 1)).map (.int .i64)))) := by
          intro v' w8 ho hg
          obtain ⟨g', cap', rfl⟩ : ∃ g' cap', v' = .slice (some ⟨g', 0, none⟩) (j + 1) cap' := by
            rcases ho.2 with ⟨_, hn⟩ | ⟨g', cap', cur, hv, _⟩
            · omega
            · exact ⟨g', cap', hv⟩
          refine ⟨g', cap', rfl, ⟨(HF7.out.trans ((Fr.refl No _).alloc _)).grown hg (fun b hb => .inr ?_), ?_⟩, ?_⟩
          · exact Nat.le_trans HS4.out (HO7.out.lt b hb).1
          · have := hg.size
            simp at this
            omega
          · rw [kdig_more, List.map_append]
            exact ho
        generalize ((kn / b ^ j % b : Nat) : Int) = dv at ARM ⊢
        go_wp2_with (at_builtin; refine wpList_append_own _ rfl _ _ 31 rfl w4.heap.size 3 i0 (.int .i64 0) 1 8 Try.underlying31 hi0 hz0 hz1 hz2 rfl (by decide) _ _ _ rfl (hown.alloc _) ⟨w7.heap.size, 0, none⟩ 1 1 [.int .i64 dv] rfl rfl (cell_one_new _ _ _) (by simp [Value.oneCell']) (by unfold maxLen; omega) (by omega) (by simp; omega) ?_; intro v' w8 hown' hgrow _; obtain ⟨g', cap', rfl, HN⟩ := ARM.out v' w8 hown' hgrow; clear hown' hgrow)
        go_roundw
        case rel => exact ⟨j + 1, cap', _, by omega, by go_num, rfl, ⟨HN.out.1.1, HN.out.1.2⟩, HN.out.2⟩
        case measure => simp [intOf]; omega
      · obtain rfl : a = j := by omega
        have HI : Hid (ISl w6 B (kdig b kn a)) := by
          refine ISl.of_own (c := cp) (B := w4.heap.size) ?_
          rw [kdig_len]
          exact HO6.out
        go_wp2_with fail
        refine (IFF.out B cp w6 HF6.out HI.out).mono ?_
        rintro e w7 ⟨rfl, hf7⟩
        obtain ⟨g, o, rfl, hc⟩ := islNo HI.out hf7 qn x HX.out
        have hg := World.block_lt_of_cell? _ _ hc
        have HEND := Lib.hid (HF1.out.trans (HF6.out.trans hf7))
        have q1 : (qn : Int) < (a : Int) := by omega
        clear hf7
        go_wp2_with fail
        go_ret
        exact ⟨rfl, HEND.out⟩
end Go.Proofs.Ytngbpcphkfmncaa
