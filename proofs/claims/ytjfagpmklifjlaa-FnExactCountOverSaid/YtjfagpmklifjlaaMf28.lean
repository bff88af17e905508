/- FrO, FrQ, TilN, RegL2 in one text. -/
import Derived.Test.YtjfagpmklifjlaaMf26
import Derived.Test.YtjfagpmklifjlaaMf02
import Derived.Test.YtjfagpmklifjlaaMf27
import Derived.Test.YtjfagpmklifjlaaMf22
import Derived.Test.YtjfagpmklifjlaaMf08

namespace Go.Proofs.Ytjfagpmklifjlaa.Frd
set_option linter.unusedVariables false
set_option linter.unusedSimpArgs false
set_option maxRecDepth 100000
open Go.RowKit Go.Proofs.Ytjfagpmklifjlaa.Cell Go.Proofs.Ytjfagpmklifjlaa.Cels Go.Proofs.Ytjfagpmklifjlaa.Dom Go.Proofs.Ytjfagpmklifjlaa.Dms Go.Proofs.Ytjfagpmklifjlaa.Til Go.Proofs.Ytjfagpmklifjlaa.Fr Go.Proofs.Ytjfagpmklifjlaa.Flp Go.Joins
open Go.Proofs.Ytjfagpmklifjlaa.Prof (withT iCountWith sCountWith)
open Go.Proofs.Ytjfagpmklifjlaa.Nb (nbTo implNb none_nb)
open Go.Proofs.Ytjfagpmklifjlaa.KuL (mn_le mn_ge)
open Go.Proofs.Ytjfagpmklifjlaa.Reg hiding Yes add_none RC rc_start

def ovD (x y : Int) (p : Int × Int) : Dm := (mn x p.1, mn y p.2, decide (x = p.1))
theorem mem_poss {xs : List Int} {d : Dm} : d ∈ possD xs ↔ 0 < cW xs d := by
 constructor
 ·intro h; exact (possD_ok h).2.2
 ·intro h
  rw [← mem_cand]
  unfold candP
  rw [List.mem_filter, mem_both, decide_eq_true_eq]
  refine ⟨?_, h⟩
  unfold cW withT at h
  split at h
  ·rename_i q; exact mem_cells.2 q.1
  ·omega
theorem mem_nb {x y : Int} {p : Int × Int} : p ∈ nbTo x y 64 ↔ nbB x y p.1 p.2 = true := by
 unfold nbTo
 rw [List.mem_map]
 constructor
 ·rintro ⟨k, hk, rfl⟩
  exact (List.mem_filter.1 hk).2
 ·intro h
  obtain ⟨_, ho, _⟩ := nbB_iff.1 h
  unfold Ok at ho
  obtain ⟨u, v⟩ := p
  simp only at h ho
  have e1 : atX (((v.toNat * 8 + u.toNat : Nat) : Int)) = u := by unfold atX; rw [if_pos (by omega)]; omega
  have e2 : atY (((v.toNat * 8 + u.toNat : Nat) : Int)) = v := by unfold atY; rw [if_pos (by omega)]; omega
  refine ⟨v.toNat * 8 + u.toNat, List.mem_filter.2 ⟨List.mem_range.2 (by omega), ?_⟩, ?_⟩
  ·rw [e1, e2]; exact h
  ·rw [e1, e2]
theorem nodup_mapOn {α β : Type} {f : α → β} {L : List α} (h : ∀ a, a ∈ L → ∀ b, b ∈ L → f a = f b → a = b) (hn : L.Nodup) : (L.map f).Nodup :=
 List.pairwise_map.2 (List.Pairwise.imp_of_mem (fun {a b} ha hb hab e => hab (h a ha b hb e)) hn)
theorem nb_nodup (x y : Int) : (nbTo x y 64).Nodup := by
 unfold nbTo
 refine nodup_mapOn ?_ (List.nodup_range.filter _)
 intro i hi j hj e
 simp only [Prod.mk.injEq] at e
 obtain ⟨e1, e2⟩ := e
 have hi2 := List.mem_range.1 (List.mem_filter.1 hi).1
 have hj2 := List.mem_range.1 (List.mem_filter.1 hj).1
 unfold atX at e1
 unfold atY at e2
 rw [if_pos (by omega), if_pos (by omega)] at e1 e2
 omega
theorem ov_inj {x y : Int} {p q : Int × Int} (hp : nbB x y p.1 p.2 = true) (hq : nbB x y q.1 q.2 = true) (e : ovD x y p = ovD x y q) : p = q := by
 obtain ⟨_, _, h1⟩ := nbB_iff.1 hp
 obtain ⟨_, _, h2⟩ := nbB_iff.1 hq
 obtain ⟨a, b⟩ := p
 obtain ⟨c, d⟩ := q
 unfold ovD mn at e
 simp only [Prod.mk.injEq, decide_eq_decide] at e h1 h2 ⊢
 obtain ⟨e1, e2, e3⟩ := e
 split at e1 <;> split at e1 <;> split at e2 <;> split at e2 <;> omega
theorem ov_cov {x y : Int} {p : Int × Int} (hp : nbB x y p.1 p.2 = true) : covM (ovD x y p) x y = true := by
 obtain ⟨o1, o2, h1⟩ := nbB_iff.1 hp
 obtain ⟨a, b⟩ := p
 unfold Ok at o1 o2
 simp only at o1 o2 h1
 have hw : ∀ z : Int, -10 ≤ z → z ≤ 10 → wrap64 z = z := fun z h1 h2 => by unfold wrap64; omega
 have hok : okM (ovD x y (a, b)) = true ∧ ((x = (ovD x y (a, b)).1 ∧ y = (ovD x y (a, b)).2.1) ∨ (x = sx (ovD x y (a, b)).1 (ovD x y (a, b)).2.2 ∧ y = sy (ovD x y (a, b)).2.1 (ovD x y (a, b)).2.2)) := by
  unfold okM domB
  rw [Bool.and_eq_true, okB_iff, okB_iff]
  by_cases e : x = a
  ·subst e
   have e1 : ovD x y (x, b) = (x, mn y b, true) := by unfold ovD; rw [mn_le (Int.le_refl _)]; simp
   rw [e1]
   have e2 : mn y b = y ∧ b = y + 1 ∨ mn y b = b ∧ y = b + 1 := by unfold mn; split <;> omega
   generalize mn y b = m at e2
   have e3 : sx x true = x := rfl
   have e4 : sy m true = m + 1 := hw _ (by omega) (by omega)
   simp only [e3, e4, true_and, and_true]
   unfold Ok
   refine ⟨⟨by omega, by omega⟩, by omega⟩
  ·have e1 : ovD x y (a, b) = (mn x a, mn y b, false) := by unfold ovD; simp [e]
   rw [e1]
   have e2 : mn x a = x ∧ a = x + 1 ∨ mn x a = a ∧ x = a + 1 := by unfold mn; split <;> omega
   have e5 : mn y b = y := by unfold mn; split <;> omega
   generalize mn x a = m at e2
   rw [e5]
   have e3 : sx m false = m + 1 := hw _ (by omega) (by omega)
   have e4 : sy y false = y := rfl
   simp only [e3, e4, true_and, and_true]
   unfold Ok
   refine ⟨⟨by omega, by omega⟩, by omega⟩
 exact cov_of hok.1 hok.2
theorem cov_ov {x y : Int} {d : Dm} (h : covM d x y = true) : ∃ p : Int × Int, nbB x y p.1 p.2 = true ∧ ovD x y p = d := by
 have hk := (cov_two h).1
 unfold okM domB at hk
 rw [Bool.and_eq_true, okB_iff, okB_iff] at hk
 rcases Hgt.cov_who h with rfl | rfl | rfl | rfl
 ·refine ⟨(x, y + 1), ?_, ?_⟩
  ·rw [nbB_iff]; unfold Ok sx sy at *; unfold wrap64 at *; simp at hk ⊢; omega
  ·unfold ovD; rw [mn_le (Int.le_refl _), mn_le (by omega)]; simp
 ·refine ⟨(x + 1, y), ?_, ?_⟩
  ·rw [nbB_iff]; unfold Ok sx sy at *; unfold wrap64 at *; simp at hk ⊢; omega
  ·unfold ovD; rw [mn_le (by omega), mn_le (Int.le_refl _), decide_eq_false (by omega)]
 ·refine ⟨(x, y - 1), ?_, ?_⟩
  ·rw [nbB_iff]; unfold Ok sx sy at *; unfold wrap64 at *; simp at hk ⊢; omega
  ·unfold ovD; rw [mn_le (Int.le_refl _), mn_ge (by omega)]; simp
 ·refine ⟨(x - 1, y), ?_, ?_⟩
  ·rw [nbB_iff]; unfold Ok sx sy at *; unfold wrap64 at *; simp at hk ⊢; omega
  ·unfold ovD; rw [mn_ge (by omega), mn_le (Int.le_refl _), decide_eq_false (by omega)]
def nbP (xs : List Int) (x y : Int) : List (Int × Int) := (nbTo x y 64).filter fun p => decide (0 < cW xs (ovD x y p))
theorem over_nb (xs : List Int) (x y : Int) : (nbP xs x y).length = (overL (possD xs) x y).length := by
 rw [← List.length_map (f := ovD x y)]
 refine perm_of ?_ ((inc_nodup (possD_inc xs)).filter _) fun d => ?_
 ·refine nodup_mapOn (fun p hp q hq e => ?_) ((nb_nodup x y).filter _)
  exact ov_inj (mem_nb.1 (List.mem_filter.1 hp).1) (mem_nb.1 (List.mem_filter.1 hq).1) e
 ·rw [List.mem_map]
  unfold overL nbP
  rw [List.mem_filter, mem_poss]
  constructor
  ·rintro ⟨p, hp, rfl⟩
   rw [List.mem_filter, decide_eq_true_eq] at hp
   exact ⟨hp.2, ov_cov (mem_nb.1 hp.1)⟩
  ·rintro ⟨h1, h2⟩
   obtain ⟨p, hp, rfl⟩ := cov_ov h2
   exact ⟨p, List.mem_filter.2 ⟨mem_nb.2 hp, decide_eq_true h1⟩, rfl⟩
def cntP {α : Type} (p : α → Bool) (L : List α) (k : Nat) : Nat := ((L.take k).filter p).length
theorem cntP_yes {α : Type} {p : α → Bool} {L : List α} {k : Nat} (hk : k < L.length) (hp : p L[k] = true) : cntP p L (k + 1) = cntP p L k + 1 := by
 unfold cntP; rw [List.take_succ_eq_append_getElem hk, List.filter_append]; simp [hp]
theorem cntP_no {α : Type} {p : α → Bool} {L : List α} {k : Nat} (hk : k < L.length) (hp : p L[k] = false) : cntP p L (k + 1) = cntP p L k := by
 unfold cntP; rw [List.take_succ_eq_append_getElem hk, List.filter_append]; simp [hp]
theorem cntP_all {α : Type} {p : α → Bool} {L : List α} {k : Nat} (hk : k = L.length) : cntP p L k = (L.filter p).length := by unfold cntP; rw [hk, List.take_length]
theorem cntP_le {α : Type} (p : α → Bool) (L : List α) (k : Nat) : cntP p L k ≤ k := Nat.le_trans (List.length_filter_le _ _) (by rw [List.length_take]; omega)

set_option maxHeartbeats 4000000 in
theorem iCountOver (w : World) (A : Option Addr) (n cap B : Nat) (xs : List Int) (hx : xs.length = n) (hn : (n : Int) ≤ 1048576) (h : RowB w B A xs) (hB : B ≤ w.heap.size) (hcap : A = none → n = 0 ∧ cap = 0) (x y : Int) :
  Calls Try.prog 17 #[.agg #[.slice A n cap], .agg #[.int .i64 x, .int .i64 y]] w (Num (((overL (possD xs) x y).length : Nat) : Int) w) := by
 have HN := Lib.hid (fun W => implNb x y W)
 have HW := Lib.hid (fun W (hb : Below w.heap.size w W) x y b (h1 : Sm x) (h2 : Sm y) => show Calls Try.prog 54 #[.agg #[.slice A n cap], .agg #[.int .i64 x, .int .i64 y, .bool b]] W (Num (cW xs (x, y, b)) W) from iCountWith W A n cap B xs hx hn (h.below hb hB) (by have := hb.size; omega) hcap x y b h1 h2)
 have HS := Lib.hid (rc_start w (.slice A n cap) x y)
 have HMem := Lib.hid (fun p (hp : p ∈ nbTo x y 64) => mem_nb.1 hp)
 have HLn := Lib.hid (show (nbTo x y 64).length ≤ 64 from Nb.nbTo_length x y 64)
 rw [← over_nb]
 have HYes := Lib.hid (fun k (hk : k < (nbTo x y 64).length) hp => cntP_yes (p := fun p => decide (0 < cW xs (ovD x y p))) hk hp)
 have HNo := Lib.hid (fun k (hk : k < (nbTo x y 64).length) hp => cntP_no (p := fun p => decide (0 < cW xs (ovD x y p))) hk hp)
 have HEnd := Lib.hid (show ∀ k, k = (nbTo x y 64).length → cntP (fun p => decide (0 < cW xs (ovD x y p))) (nbTo x y 64) k = (nbP xs x y).length from fun k hk => cntP_all hk)
 have HCl := Lib.hid (fun k => cntP_le (fun p => decide (0 < cW xs (ovD x y p))) (nbTo x y 64) k)
 generalize (nbP xs x y).length = R at HEnd ⊢
 generalize cW xs = c at HW HYes HNo HEnd HCl
 unfold NbPost at HN
 generalize nbTo x y 64 = C at HN HMem HLn HYes HNo HEnd HCl
 clear hx hn h hB hcap
 go_enter Try.func17, Try.ntmps17
 go_wp2_with fail
 generalize (w.alloc (.cells #[.slice A n cap] 26)).alloc (.cells #[.int .i64 x, .int .i64 y] 38) = W0 at HS ⊢
 have T0 := HS.out
 obtain ⟨B0, r0, z0⟩ := id T0
 have e0 := z0.c0
 have e1 := z0.c1
 go_wp2_with fail
 refine (HN.out _).mono ?_
 rintro e w1 ⟨A1, cap1, rfl, hown1, hb1⟩
 obtain ⟨b, ob, hlb, hob, hsrc, hbz⟩ := src_cells (z := w.heap.size) hown1 (by have := B0.size; have := r0.lt; have := hb1.size; omega)
 obtain ⟨off, hA1, hR1⟩ := hsrc
 have HA1 := Lib.hid hA1
 have HRd := Lib.hid hR1
 have HT1 := Lib.hid (show Til.RC w (.slice A n cap) x y w1 ∧ b < w1.heap.size ∧ w1.heap[b]? = ob from ⟨T0.on hb1, hlb, hob⟩)
 clear HS T0 B0 r0 z0 e0 e1 hown1 hb1 hlb hob hbz hA1 hR1 HN
 obtain ⟨N, hN⟩ : ∃ N, N = C.length := ⟨_, rfl⟩
 rw [← hN] at HLn HA1 HEnd ⊢
 have HN := Lib.hid hN
 clear hN
 go_wp2_with fail
 go_loopw [5, 13] (fun ov si wr => ∃ t k : Nat, t ≤ N ∧ si = .int .i64 t ∧ ov = .int .i64 (k : Int) ∧ Hid (k = cntP (fun p => decide (0 < c (ovD x y p))) C t) ∧ Hid (Til.RC w (.slice A n cap) x y wr ∧ b < wr.heap.size ∧ wr.heap[b]? = ob)) (fun _ si _ => N - (intOf si).toNat)
 case atStart => exact ⟨0, 0, Nat.zero_le _, rfl, rfl, Lib.hid rfl, HT1⟩
 case round =>
  clear HT1
  obtain ⟨t, k, ht, rfl, rfl, HK, HT⟩ := hrel
  have hN64 := HLn.out
  have hk64 : k ≤ 64 := by have h1 := HCl.out t; have h2 := HK.out; omega
  by_cases hlt : t < N
  ·have hti : t < C.length := by rw [← HN.out]; exact hlt
   obtain rfl := HA1.out (by omega)
   obtain ⟨T1, l1, b1⟩ := HT.out
   obtain ⟨c0, c1⟩ := HRd.out _ b1 t hti
   have HY := Lib.hid (HYes.out t hti)
   have HO := Lib.hid (HNo.out t hti)
   have hnb := HMem.out C[t] (List.getElem_mem hti)
   generalize C[t] = p at c0 c1 HY HO hnb
   obtain ⟨u, v⟩ := p
   simp only at c0 c1 hnb
   have HOv := Lib.hid (fun W => iDominoOver_ok x y u v hnb W)
   have hsm : Sm (mn x u) ∧ Sm (mn y v) := by
    obtain ⟨o1, o2, _⟩ := nbB_iff.1 hnb
    unfold Ok at o1 o2
    unfold mn Sm
    constructor <;> split <;> omega
   have HD := Lib.hid (show ovD x y (u, v) = (mn x u, mn y v, decide (x = u)) from rfl)
   rw [HD.out] at HY HO
   generalize mn x u = dx at HOv hsm HY HO
   generalize mn y v = dy at HOv hsm HY HO
   generalize decide (x = u) = db at HOv HY HO
   have HWd := Lib.hid (fun W hb => HW.out W hb dx dy db hsm.1 hsm.2)
   obtain ⟨q, hq⟩ : ∃ q, q = c (dx, dy, db) := ⟨_, rfl⟩
   rw [← hq] at HWd HY HO
   have T2 := T1.on (below_alloc1 wr (.cells #[.int .i64 u, .int .i64 v] 38))
   have l2 : b < (wr.alloc (.cells #[.int .i64 u, .int .i64 v] 38)).heap.size := by simp; omega
   have b2 : (wr.alloc (.cells #[.int .i64 u, .int .i64 v] 38)).heap[b]? = ob := ((below_alloc1 wr _).block b l1).trans b1
   have Z2 := At2.new wr u v
   have htN : (t : Int) < (N : Int) := by omega
   clear hq hnb hsm HD
   go_upto_region 5 with fail
   generalize wr.alloc (.cells #[.int .i64 u, .int .i64 v] 38) = W2 at T2 l2 b2 Z2 ⊢
   generalize wr.heap.size = zb at Z2 ⊢
   clear c0 c1 T1 l1 b1 HT
   have e0 := T2.2.2.c0
   have e1 := T2.2.2.c1
   have f0 := Z2.c0
   have f1 := Z2.c1
   go_wp2_with fail
   refine (HOv.out _).mono ?_
   rintro e w3 ⟨rfl, hb3⟩
   have T3 := T2.on hb3
   have l3 : b < w3.heap.size := Nat.lt_of_lt_of_le l2 hb3.size
   have b3 := (hb3.block b l2).trans b2
   clear T2 l2 b2 Z2 e0 e1 f0 f1 hb3 HOv
   have T4 := T3.on (below_alloc1 w3 (.cells #[.int .i64 dx, .int .i64 dy, .bool db] 41))
   have l4 : b < (w3.alloc (.cells #[.int .i64 dx, .int .i64 dy, .bool db] 41)).heap.size := by simp; omega
   have b4 : (w3.alloc (.cells #[.int .i64 dx, .int .i64 dy, .bool db] 41)).heap[b]? = ob := ((below_alloc1 w3 _).block b l3).trans b3
   have D4 := At3.new 41 w3 dx dy db
   go_upto_region 6 with fail
   generalize w3.alloc (.cells #[.int .i64 dx, .int .i64 dy, .bool db] 41) = W4 at T4 l4 b4 D4 ⊢
   generalize w3.heap.size = pd at D4 ⊢
   clear T3 l3 b3
   have r0 := T4.2.1.c0
   have d0 := D4.c0
   have d1 := D4.c1
   have d2 := D4.c2
   go_wp2_with fail
   refine (HWd.out _ T4.1).mono ?_
   rintro e w5 ⟨rfl, hb5⟩
   have HT5 := Lib.hid (show Til.RC w (.slice A n cap) x y w5 ∧ b < w5.heap.size ∧ w5.heap[b]? = ob from ⟨T4.on hb5, Nat.lt_of_lt_of_le l4 hb5.size, (hb5.block b l4).trans b4⟩)
   clear T4 l4 b4 D4 r0 d0 d1 d2 hb5 HWd
   by_cases hp : 0 < q
   ·have HKn := Lib.hid (show k + 1 = cntP (fun p => decide (0 < c (ovD x y p))) C (t + 1) from by rw [HY.out (decide_eq_true hp), ← HK.out])
    clear HY HO
    go_wp2
    go_roundw
    case rel => exact ⟨t + 1, k + 1, by omega, by go_num, by go_num, HKn, HT5⟩
    case measure => (simp [intOf] <;> omega)
   ·have HKn := Lib.hid (show k = cntP (fun p => decide (0 < c (ovD x y p))) C (t + 1) from by rw [HO.out (decide_eq_false hp), ← HK.out])
    clear HY HO
    go_wp2
    go_roundw
    case rel => exact ⟨t + 1, k, by omega, by go_num, rfl, HKn, HT5⟩
    case measure => (simp [intOf] <;> omega)
  ·obtain rfl : N = t := by omega
   have HKe := Lib.hid (show k = R from by rw [HK.out]; exact HEnd.out _ rfl)
   have HBe := HT.out.1.1
   clear HK HT
   go_wp2
   go_ret
   exact ⟨by rw [HKe.out]; rfl, HBe⟩
end Go.Proofs.Ytjfagpmklifjlaa.Frd

namespace Go.Proofs.Ytjfagpmklifjlaa.Frd
set_option linter.unusedVariables false
set_option linter.unusedSimpArgs false
set_option maxRecDepth 100000
open Go.RowKit Go.Proofs.Ytjfagpmklifjlaa.Pure Go.Proofs.Ytjfagpmklifjlaa.Cell Go.Proofs.Ytjfagpmklifjlaa.Dom Go.Proofs.Ytjfagpmklifjlaa.Dms Go.Proofs.Ytjfagpmklifjlaa.Til Go.Proofs.Ytjfagpmklifjlaa.Fr Go.Joins
open Go.Proofs.Ytjfagpmklifjlaa.Reg hiding Yes add_none RC rc_start

theorem possD_len (xs : List Int) : (possD xs).length ≤ 128 := by
 by_cases ok : okR xs
 ·rw [← poss_fits ok]; exact Nat.le_trans (List.length_filter_le _ _) (allD_len xs)
 ·unfold possD; rw [if_neg ok]; simp
set_option maxHeartbeats 4000000 in
theorem sCountOver (w : World) (A : Option Addr) (n cap B : Nat) (xs : List Int) (hx : xs.length = n) (hn : (n : Int) ≤ 1048576) (h : RowB w B A xs) (hB : B ≤ w.heap.size) (hcap : A = none → n = 0 ∧ cap = 0) (x y : Int) :
  Calls Try.prog 37 #[.agg #[.slice A n cap], .agg #[.int .i64 x, .int .i64 y]] w (Num (((overL (possD xs) x y).length : Nat) : Int) w) := by
 have HP := Lib.hid (fun W (hb : Below w.heap.size w W) => sPossible W A n cap B xs hx hn (h.below hb hB) (by have := hb.size; omega) hcap)
 have HS := Lib.hid (rc_start w (.slice A n cap) x y)
 have HVal := Lib.hid (fun d (hd : d ∈ possD xs) => (possD_ok hd).2.1)
 have HLn := Lib.hid (possD_len xs)
 unfold overL
 unfold DmE at HP
 generalize possD xs = F at HP HVal HLn ⊢
 have HYes := Lib.hid (fun k (hk : k < F.length) (hp : (fun d : Dm => covM d x y) F[k] = true) => cntP_yes (p := fun d : Dm => covM d x y) hk hp)
 have HNo := Lib.hid (fun k (hk : k < F.length) (hp : (fun d : Dm => covM d x y) F[k] = false) => cntP_no (p := fun d : Dm => covM d x y) hk hp)
 have HEnd := Lib.hid (show ∀ k, k = F.length → cntP (fun d : Dm => covM d x y) F k = (F.filter fun d => covM d x y).length from fun k hk => cntP_all hk)
 have HCl := Lib.hid (fun k => cntP_le (fun d : Dm => covM d x y) F k)
 generalize (F.filter fun d => covM d x y).length = R at HEnd ⊢
 clear hx hn h hB hcap
 go_enter Try.func37, Try.ntmps37
 go_wp2_with fail
 generalize (w.alloc (.cells #[.slice A n cap] 26)).alloc (.cells #[.int .i64 x, .int .i64 y] 38) = W0 at HS ⊢
 have T0 := HS.out
 obtain ⟨B0, r0, z0⟩ := id T0
 have e0 := r0.c0
 go_wp2_with fail
 refine (HP.out _ B0).mono ?_
 rintro e w1 ⟨A1, cap1, rfl, hown1, hb1⟩
 obtain ⟨b, ob, hlb, hob, hsrc, hbz⟩ := src_doms (z := w.heap.size) hown1 (by have := B0.size; have := r0.lt; have := hb1.size; omega)
 obtain ⟨off, hA1, hR1⟩ := hsrc
 have HA1 := Lib.hid hA1
 have HRd := Lib.hid hR1
 have HT1 := Lib.hid (show Til.RC w (.slice A n cap) x y w1 ∧ b < w1.heap.size ∧ w1.heap[b]? = ob from ⟨T0.on hb1, hlb, hob⟩)
 clear HS T0 B0 r0 z0 e0 hown1 hb1 hlb hob hbz hA1 hR1 HP
 obtain ⟨N, hN⟩ : ∃ N, N = F.length := ⟨_, rfl⟩
 rw [← hN] at HLn HA1 HEnd ⊢
 have HN := Lib.hid hN
 clear hN
 go_wp2_with fail
 go_loopw [5, 7] (fun ov si wr => ∃ t k : Nat, t ≤ N ∧ si = .int .i64 t ∧ ov = .int .i64 (k : Int) ∧ Hid (k = cntP (fun d : Dm => covM d x y) F t) ∧ Hid (Til.RC w (.slice A n cap) x y wr ∧ b < wr.heap.size ∧ wr.heap[b]? = ob)) (fun _ si _ => N - (intOf si).toNat)
 case atStart => exact ⟨0, 0, Nat.zero_le _, rfl, rfl, Lib.hid rfl, HT1⟩
 case round =>
  clear HT1
  obtain ⟨t, k, ht, rfl, rfl, HK, HT⟩ := hrel
  have hN64 := HLn.out
  have hk64 : k ≤ 128 := by have h1 := HCl.out t; have h2 := HK.out; omega
  by_cases hlt : t < N
  ·have hti : t < F.length := by rw [← HN.out]; exact hlt
   obtain rfl := HA1.out (by omega)
   obtain ⟨T1, l1, b1⟩ := HT.out
   obtain ⟨c0, c1, c2⟩ := HRd.out _ b1 t hti
   have HY := Lib.hid (HYes.out t hti)
   have HO := Lib.hid (HNo.out t hti)
   have hok := HVal.out F[t] (List.getElem_mem hti)
   generalize F[t] = p at c0 c1 c2 HY HO hok
   obtain ⟨u, v, s⟩ := p
   simp only at c0 c1 c2
   have hd : domB u v s = true := hok
   have HU := Lib.hid (fun W => sCellsUnder_ok u v s hd W)
   have HKv := Lib.hid (show covM (u, v, s) x y = (domB u v s && (eqB x y u v || eqB x y (sx u s) (sy v s))) from rfl)
   rw [hd] at HKv
   generalize sx u s = m at HU HKv
   generalize sy v s = q at HU HKv
   have htN : (t : Int) < (N : Int) := by omega
   clear hd hok
   go_wp2_with fail
   refine (HU.out _).mono ?_
   rintro e w2 ⟨rfl, hb2⟩
   have T2 := T1.on hb2
   have l2 : b < w2.heap.size := Nat.lt_of_lt_of_le l1 hb2.size
   have b2 := (hb2.block b l1).trans b1
   clear c0 c1 c2 T1 l1 b1 hb2 HU HT
   go_upto_region 7 with fail
   obtain ⟨k1, k2, k3⟩ := at2_two w2 u v m q
   have T3 := T2.on k3
   have l3 : b < ((w2.alloc (.cells #[.int .i64 u, .int .i64 v] 38)).alloc (.cells #[.int .i64 m, .int .i64 q] 38)).heap.size := Nat.lt_of_lt_of_le l2 k3.size
   have b3 := (k3.block b l2).trans b2
   generalize (w2.alloc (.cells #[.int .i64 u, .int .i64 v] 38)).alloc (.cells #[.int .i64 m, .int .i64 q] 38) = W at k1 k2 T3 l3 b3 ⊢
   have c0 := k1.c0
   have c1 := k1.c1
   have c2 := k2.c0
   have c3 := k2.c1
   have c4 := T3.2.2.c0
   have c5 := T3.2.2.c1
   have HYy := Lib.hid (fun (hh : (u = x ∧ v = y) ∨ (m = x ∧ q = y)) => show k + 1 = cntP (fun d : Dm => covM d x y) F (t + 1) from by
    rw [HY.out (by show covM (u, v, s) x y = true; rw [HKv.out]; simp [eqB_iff]; rcases hh with ⟨rfl, rfl⟩ | ⟨rfl, rfl⟩ <;> simp), ← HK.out])
   have HNn := Lib.hid (fun (hh : ¬ ((u = x ∧ v = y) ∨ (m = x ∧ q = y))) => show k = cntP (fun d : Dm => covM d x y) F (t + 1) from by
    rw [HO.out (by show covM (u, v, s) x y = false; rw [HKv.out, Bool.true_and, Bool.eq_false_iff]; intro hc; simp only [Bool.or_eq_true, eqB_iff] at hc; exact hh (by omega)), ← HK.out])
   have HT3 := Lib.hid (show Til.RC w (.slice A n cap) x y W ∧ b < W.heap.size ∧ W.heap[b]? = ob from ⟨T3, l3, b3⟩)
   clear k1 k2 k3 T2 T3 l2 b2 l3 b3 HKv HK HY HO
   go_wp2
   all_goals first
    | (refine ⟨⟨t + 1, k + 1, by omega, by go_num, by go_num, Lib.hid (HYy.out (by omega)), HT3⟩, ?_⟩; simp [intOf] <;> omega)
    | (refine ⟨⟨t + 1, k, by omega, by go_num, rfl, Lib.hid (HNn.out (by omega)), HT3⟩, ?_⟩; simp [intOf] <;> omega)
  ·obtain rfl : N = t := by omega
   have HKe := Lib.hid (show k = R from by rw [HK.out]; exact HEnd.out _ rfl)
   have HBe := HT.out.1.1
   clear HK HT
   go_wp2
   go_ret
   exact ⟨by rw [HKe.out]; rfl, HBe⟩
end Go.Proofs.Ytjfagpmklifjlaa.Frd

namespace Go.Proofs.Ytjfagpmklifjlaa.Til
set_option linter.unusedVariables false
set_option linter.unusedSimpArgs false
open Go.RowKit Go.Proofs.Ytjfagpmklifjlaa.Dms Go.Joins
open Go.Proofs.Ytjfagpmklifjlaa.Reg hiding Yes add_none

def by3 (m : Nat) : Bool := decide (((m : Nat) : Int) % 3 = 0)
def mkM (k j : Nat) : Dm := (((k + 3 * j : Nat) : Int), ((k + 3 * j + 1 : Nat) : Int), by3 (k + 3 * j + 2))
def marksM (k n : Nat) : List Dm := (List.range n).map (mkM k)
theorem marksM_length (k n : Nat) : (marksM k n).length = n := by unfold marksM; simp
theorem marksM_at (k n j : Nat) (h : j < n) : (marksM k n)[j]? = some (mkM k j) := by unfold marksM; simp [List.getElem?_range h]
theorem marksM_step (k j n : Nat) (L : List Dm) (hL : L.length = n) (hj : j < n) :
  (((rowM (marksM k j ++ L.drop j)).set (j * 3) (.int .i64 ((k + 3 * j : Nat) : Int))).set (j * 3 + 1) (.int .i64 ((k + 3 * j + 1 : Nat) : Int))).set (j * 3 + 2) (.bool (by3 (k + 3 * j + 2))) = rowM (marksM k (j + 1) ++ L.drop (j + 1)) := by
 rw [List.drop_eq_getElem_cons (by omega)]
 have h := rowM_put (marksM k j) L[j] (mkM k j) (L.drop (j + 1)) j (marksM_length k j)
 unfold mkM at h
 simp only at h
 rw [h]
 congr 1
 unfold marksM
 rw [List.range_succ, List.map_append, List.append_assoc]
 rfl

set_option maxRecDepth 100000 in
set_option maxHeartbeats 1000000 in
theorem markDoms (w : World) (base hi k n cap : Nat) (A : Option Addr) (L : List Dm) (hn : ((k + 3 * n : Nat) : Int) ≤ 10000000) (hr : RowIn w base hi 41 3 (.slice A n cap) n (rowM L)) :
  Calls Try.prog 30 #[.slice A n cap, .int .i64 (k : Int)] w fun e w' => e = .returned (.int .i64 ((k + 3 * n : Nat) : Int)) ∧ RowIn w' base hi 41 3 (.slice A n cap) n (rowM (marksM k n)) ∧ Apart base hi w w' := by
 have hx : L.length = n := by have := hr.1.1; rw [rowM_length] at this; omega
 have HX := Lib.hid hx
 have HN := Lib.hid hn
 have HH := Lib.hid hr.2
 have HO := Lib.hid hr.1
 clear hx hr hn
 go_enter Try.func30, Try.ntmps30
 go_wp2_with fail
 go_loopw [1, 5] (fun m i wr => ∃ j : Nat, j ≤ n ∧ i = .int .i64 j ∧ m = .int .i64 ((k + 3 * j : Nat) : Int) ∧ wr.ownsRow base 41 3 (.slice A n cap) n (rowM (marksM k j ++ L.drop j)) ∧ Apart base hi w wr) (fun _ i _ => n - (intOf i).toNat)
 case atStart => exact ⟨0, Nat.zero_le _, rfl, rfl, by simpa [marksM] using HO.out, Apart.refl _ _ _⟩
 case round =>
  obtain ⟨j, hj, rfl, rfl, hown, hb⟩ := hrel
  have hm : ((k + 3 * j : Nat) : Int) ≤ 10000000 := by have := HN.out; omega
  by_cases hlt : j < n
  ·obtain ⟨g, c, hv, hg1, hg2⟩ := hown.form (by omega)
   injection hv with hA hn1 hc1
   subst hA
   subst hc1
   have hu : ∀ m, m < n * 3 → ∃ u, wr.cell? ⟨g, m, none⟩ = some u := fun m hm => by
    have hlen := hown.1
    rw [hown.cellAt m (by omega)]; exact ⟨_, List.getElem?_eq_getElem (by omega)⟩
   obtain ⟨u0, hu0⟩ := hu (j * 3) (by omega)
   obtain ⟨u1, hu1⟩ := hu (j * 3 + 1) (by omega)
   obtain ⟨u2, hu2⟩ := hu (j * 3 + 2) (by omega)
   have hf0 := hown.frozenAt (j * 3)
   have hf1 := hown.frozenAt (j * 3 + 1)
   have hf2 := hown.frozenAt (j * 3 + 2)
   obtain ⟨hst, _⟩ := hown.stored (j * 3) (.int .i64 ((k + 3 * j : Nat) : Int))
   obtain ⟨hst, _⟩ := hst.stored (j * 3 + 1) (.int .i64 ((k + 3 * j + 1 : Nat) : Int))
   obtain ⟨hst, _⟩ := hst.stored (j * 3 + 2) (.bool (by3 (k + 3 * j + 2)))
   rw [marksM_step k j n L HX.out hlt] at hst
   have hb3 := ((hb.setCell (p := ⟨g, j * 3, none⟩) hg1 (HH.out g rfl) (.int .i64 ((k + 3 * j : Nat) : Int))).setCell (p := ⟨g, j * 3 + 1, none⟩) hg1 (HH.out g rfl) (.int .i64 ((k + 3 * j + 1 : Nat) : Int))).setCell (p := ⟨g, j * 3 + 2, none⟩) hg1 (HH.out g rfl) (.bool (by3 (k + 3 * j + 2)))
   have hk2 : ((k + 3 * (j + 1) : Nat) : Int) = ((k + 3 * j : Nat) : Int) + 3 := by omega
   have e1 : ((k + 3 * j + 1 : Nat) : Int) = ((k + 3 * j : Nat) : Int) + 1 := by omega
   have e2 : by3 (k + 3 * j + 2) = ((((k + 3 * j : Nat) : Int) + 1 + 1) % 3 == 0) := by unfold by3; rw [Bool.eq_iff_iff]; simp only [decide_eq_true_eq, beq_iff_eq]; omega
   rw [e2, e1] at hst hb3
   have R := Lib.hid hst
   have HB := Lib.hid hb3
   have HK2 := Lib.hid hk2
   have hm0 : 0 ≤ ((k + 3 * j : Nat) : Int) := by omega
   have hnb : (n : Int) ≤ 10000000 := by have := HN.out; omega
   generalize ((k + 3 * j : Nat) : Int) = m at hm R HB HK2 hm0
   clear hown hst hb3 hb hu hk2 e1 e2
   go_wp2
   go_roundw
   case rel => exact ⟨j + 1, by omega, by go_num, by rw [HK2.out]; go_num, R.out, HB.out⟩
   case measure => (simp [intOf] <;> omega)
  ·obtain rfl : j = n := by omega
   have R := Lib.hid (show wr.ownsRow base 41 3 (.slice A j cap) j (rowM (marksM k j)) by
    have e : marksM k j ++ L.drop j = marksM k j := by rw [List.drop_eq_nil_of_le (by rw [HX.out]; omega), List.append_nil]
    rw [e] at hown; exact hown)
   clear hown
   go_wp2
   go_ret
   exact ⟨by go_num, ⟨R.out, HH.out⟩, hb⟩
set_option maxRecDepth 100000 in
set_option maxHeartbeats 1000000 in
theorem heldDoms (w : World) (k n cap B : Nat) (A : Option Addr) (hn : ((k + 3 * n : Nat) : Int) ≤ 10000000) (hr : RowM w B A (marksM k n)) :
  Calls Try.prog 31 #[.slice A n cap, .int .i64 (k : Int)] w fun e w' => e = .returned (.int .i64 ((k + 3 * n : Nat) : Int)) ∧ w' = w := by
 obtain ⟨b, off, hA, hc⟩ := hr
 have HA := Lib.hid hA
 have HC := Lib.hid hc
 have HN := Lib.hid hn
 clear hA hc hn
 go_enter Try.func31, Try.ntmps31
 go_wp2_with fail
 go_loopw [1, 5] (fun m i wr => ∃ j : Nat, j ≤ n ∧ i = .int .i64 j ∧ m = .int .i64 ((k + 3 * j : Nat) : Int) ∧ wr = w) (fun _ i _ => n - (intOf i).toNat)
 case atStart => exact ⟨0, Nat.zero_le _, rfl, rfl, rfl⟩
 case round =>
  obtain ⟨j, hj, rfl, rfl, rfl⟩ := hrel
  have hm : ((k + 3 * j : Nat) : Int) ≤ 10000000 := by have := HN.out; omega
  by_cases hlt : j < n
  ·obtain ⟨rfl, hbw⟩ := HA.out (by rw [marksM_length]; omega)
   obtain ⟨c0, c1, c2⟩ := HC.out j _ (marksM_at k n j hlt)
   unfold mkM at c0 c1 c2
   simp only at c0 c1 c2
   have HK2 := Lib.hid (show ((k + 3 * (j + 1) : Nat) : Int) = ((k + 3 * j : Nat) : Int) + 3 by omega)
   have e1 : ((k + 3 * j + 1 : Nat) : Int) = ((k + 3 * j : Nat) : Int) + 1 := by omega
   have e2 : by3 (k + 3 * j + 2) = ((((k + 3 * j : Nat) : Int) + 1 + 1) % 3 == 0) := by unfold by3; rw [Bool.eq_iff_iff]; simp only [decide_eq_true_eq, beq_iff_eq]; omega
   rw [e1] at c1
   rw [e2] at c2
   have hm0 : 0 ≤ ((k + 3 * j : Nat) : Int) := by omega
   have hnb : (n : Int) ≤ 10000000 := by have := HN.out; omega
   generalize ((k + 3 * j : Nat) : Int) = m at hm HK2 hm0 c0 c1 c2
   have q0 : (m != m) = false := by simp
   have q1 : (m + 1 != m + 1) = false := by simp
   have q2 : (((m + 1 + 1) % 3 == 0) != ((m + 1 + 1) % 3 == 0)) = false := by simp
   clear e1 e2
   go_wp2
   go_roundw
   case rel => exact ⟨j + 1, by omega, by go_num, by rw [HK2.out]; go_num, trivial⟩
   case measure => (simp [intOf] <;> omega)
  ·obtain rfl : j = n := by omega
   go_wp2
   go_ret
   exact ⟨by go_num, rfl⟩
theorem markDomsN (w : World) (base hi k n cap : Nat) (A : Option Addr) (L : List Dm) (k0 m : Int) (hk : k0 = (k : Int)) (hm : m = ((k + 3 * n : Nat) : Int)) (hn : m ≤ 10000000) (hr : RowIn w base hi 41 3 (.slice A n cap) n (rowM L)) :
  Calls Try.prog 30 #[.slice A n cap, .int .i64 k0] w fun e w' => e = .returned (.int .i64 m) ∧ RowIn w' base hi 41 3 (.slice A n cap) n (rowM (marksM k n)) ∧ Apart base hi w w' := by
 subst hm; subst hk
 exact markDoms w base hi k n cap A L hn hr
theorem heldDomsN (w : World) (k n cap B : Nat) (A : Option Addr) (k0 m : Int) (hk : k0 = (k : Int)) (hm : m = ((k + 3 * n : Nat) : Int)) (hn : m ≤ 10000000) (hr : RowM w B A (marksM k n)) :
  Calls Try.prog 31 #[.slice A n cap, .int .i64 k0] w fun e w' => e = .returned (.int .i64 m) ∧ w' = w := by
 subst hm; subst hk
 exact heldDoms w k n cap B A hn hr
end Go.Proofs.Ytjfagpmklifjlaa.Til

namespace Go.Proofs.Ytjfagpmklifjlaa.Reg
set_option linter.unusedVariables false
open Go.RowKit Go.Joins

theorem RowIn.belowB {W W' : World} {lo hi B e size n : Nat} {v : Value} {xs : List Value} (h : RowIn W lo hi e size v n xs) (hb : Below B W W') (hB : hi ≤ B) : RowIn W' lo hi e size v n xs := by
 refine ⟨⟨h.1.1, ?_⟩, h.2⟩
 rcases h.1.2 with hn | ⟨g, cap, cur, rfl, hg, hgg, rest⟩
 ·exact .inl hn
 ·refine .inr ⟨g, cap, cur, rfl, hg, ?_, rest⟩
  have h2 := h.2 g rfl
  rw [hb.block g (by omega)]
  exact hgg
def LS (w : World) (v : Value) (p : Nat) (va : Value) (lx hx n : Nat) (xs : List Value) (lw hw e size : Nat) (vw : Value) (m : Nat) (cs : List Value) (W : World) : Prop :=
 Below w.heap.size w W ∧ w.heap.size + 1 ≤ W.heap.size ∧ W.cell? ⟨w.heap.size, 0, none⟩ = some v ∧ W.cell? ⟨p, 0, none⟩ = some va ∧ (p < W.heap.size ∧ RowIn W lx hx 3 1 va n xs ∧ RowIn W lw hw e size vw m cs)
section
variable {w : World} {v : Value} {p : Nat} {va : Value} {lx hx n : Nat} {xs : List Value} {lw hw e size : Nat} {vw : Value} {m : Nat} {cs : List Value} {W W' : World}
theorem LS.rb (h : LS w v p va lx hx n xs lw hw e size vw m cs W) : RB w v W := ⟨h.1, h.2.1, h.2.2.1⟩
theorem LS.x (h : LS w v p va lx hx n xs lw hw e size vw m cs W) : RowIn W lx hx 3 1 va n xs := h.2.2.2.2.2.1
theorem LS.on (h : LS w v p va lx hx n xs lw hw e size vw m cs W) (hb : Below W.heap.size W W') : LS w v p va lx hx n xs lw hw e size vw m cs W' := by
 obtain ⟨a, b, c⟩ := h.rb.on hb
 obtain ⟨_, _, _, d, f, g1, g2⟩ := h
 exact ⟨a, b, c, (hb.cell (by show p < _; omega)).trans d, by have := hb.size; omega, g1.on hb, g2.on hb⟩
theorem LS.drew (h : LS w v p va lx hx n xs lw hw e size vw m cs W) : LS w v p va lx hx n xs lw hw e size vw m cs W.drew := ⟨h.1.drew, h.2⟩
theorem LS.onB {B : Nat} (h : LS w v p va lx hx n xs lw hw e size vw m cs W) (hb : Below B W W') (h1 : w.heap.size + 1 ≤ B) (h2 : p < B) (h3 : hx ≤ B) (h4 : hw ≤ B) : LS w v p va lx hx n xs lw hw e size vw m cs W' := by
 obtain ⟨a, b, c⟩ := h.rb.onB hb h1
 obtain ⟨_, _, _, d, f, g1, g2⟩ := h
 exact ⟨a, b, c, (hb.cell (by show p < _; omega)).trans d, by have := hb.size; omega, g1.belowB hb h3, g2.belowB hb h4⟩
theorem LS.marked {ys : List Value} (h : LS w v p va lx hx n xs lw hw e size vw m cs W) (hr : RowIn W' lx hx 3 1 va n ys) (ha : Apart lx hx W W') (h1 : w.heap.size + 1 ≤ lx) (h2 : hx ≤ p) (h3 : hw ≤ lx) : LS w v p va lx hx n ys lw hw e size vw m cs W' := by
 obtain ⟨a, b, c, d, f, _, g2⟩ := h
 have hz := ha.size
 exact ⟨a.trans (ha.below (by omega) (by omega)), by omega, (ha.cell (by show w.heap.size < _; omega) (by show w.heap.size < _ ∨ _; omega)).trans c, (ha.cell (by show p < _; omega) (by show p < _ ∨ _ ≤ p; omega)).trans d, by omega, hr, g2.apart ha (by omega)⟩
theorem ls_start {T : TypeId} (h : RB w v W) (hx1 : RowIn W lx hx 3 1 va n xs) (hw1 : RowIn W lw hw e size vw m cs) : LS w v W.heap.size va lx hx n xs lw hw e size vw m cs (W.alloc (.cells #[va] T)) := by
 have hb := below_alloc1 W (.cells #[va] T)
 obtain ⟨a, b, c⟩ := h.on hb
 exact ⟨a, b, c, (cell_of_row _ _ 0 _ _ _ (heap_alloc_new W _)).trans rfl, by simp, hx1.on hb, hw1.on hb⟩
end
end Go.Proofs.Ytjfagpmklifjlaa.Reg
