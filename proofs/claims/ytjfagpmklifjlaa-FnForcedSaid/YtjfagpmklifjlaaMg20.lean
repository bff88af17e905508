/- FrO, FlmS, FrX, FrV in one text. -/
import Derived.Test.YtjfagpmklifjlaaMg18
import Derived.Test.YtjfagpmklifjlaaMg17
import Derived.Test.YtjfagpmklifjlaaMg02
import Derived.Test.YtjfagpmklifjlaaMg19
import Derived.Test.YtjfagpmklifjlaaMg01
import Derived.Test.YtjfagpmklifjlaaMg05
import Derived.BigQuiet
import Derived.Deep.QuietTactic
import Derived.Deep.Cut

namespace Go.Proofs.Ytjfagpmklifjlaa.Frd
set_option linter.unusedVariables false
set_option linter.unusedSimpArgs false
set_option maxRecDepth 100000
open Go.RowKit Go.Proofs.Ytjfagpmklifjlaa.Cell Go.Proofs.Ytjfagpmklifjlaa.Cels Go.Proofs.Ytjfagpmklifjlaa.Dom Go.Proofs.Ytjfagpmklifjlaa.Dms Go.Proofs.Ytjfagpmklifjlaa.Til Go.Proofs.Ytjfagpmklifjlaa.Fr Go.Proofs.Ytjfagpmklifjlaa.Flp Go.Joins
open Go.Proofs.Ytjfagpmklifjlaa.Prof (withT iCountWith sCountWith)
open Go.Proofs.Ytjfagpmklifjlaa.Nb (nbTo implNb none_nb)
open Go.Proofs.Ytjfagpmklifjlaa.KuL (mn_le mn_ge)
open Go.Proofs.Ytjfagpmklifjlaa.Reg hiding RC rc_start

def ovD (x y : Int) (p : Int × Int) : Dm := (mn x p.1, mn y p.2, decide (x = p.1))
theorem mem_poss {xs : List Int} {d : Dm} : d ∈ possD xs ↔ 0 < cW xs d := by
 constructor
 ·intro h; exact (possD_ok h).2.2
 ·intro h
  rw [← mem_cand]
  unfold candP
  rw [List.mem_filter, mem_both, decide_eq_true_eq]
  refine ⟨?_, h⟩
  unfold cW withT at h
  split at h
  ·rename_i q; exact mem_cells.2 q.1
  ·omega
theorem mem_nb {x y : Int} {p : Int × Int} : p ∈ nbTo x y 64 ↔ nbB x y p.1 p.2 = true := by
 unfold nbTo
 rw [List.mem_map]
 constructor
 ·rintro ⟨k, hk, rfl⟩
  exact (List.mem_filter.1 hk).2
 ·intro h
  obtain ⟨_, ho, _⟩ := nbB_iff.1 h
  unfold Ok at ho
  obtain ⟨u, v⟩ := p
  simp only at h ho
  have e1 : atX (((v.toNat * 8 + u.toNat : Nat) : Int)) = u := by unfold atX; rw [if_pos (by omega)]; omega
  have e2 : atY (((v.toNat * 8 + u.toNat : Nat) : Int)) = v := by unfold atY; rw [if_pos (by omega)]; omega
  refine ⟨v.toNat * 8 + u.toNat, List.mem_filter.2 ⟨List.mem_range.2 (by omega), ?_⟩, ?_⟩
  ·rw [e1, e2]; exact h
  ·rw [e1, e2]
theorem nodup_mapOn {α β : Type} {f : α → β} {L : List α} (h : ∀ a, a ∈ L → ∀ b, b ∈ L → f a = f b → a = b) (hn : L.Nodup) : (L.map f).Nodup :=
 List.pairwise_map.2 (List.Pairwise.imp_of_mem (fun {a b} ha hb hab e => hab (h a ha b hb e)) hn)
theorem nb_nodup (x y : Int) : (nbTo x y 64).Nodup := by
 unfold nbTo
 refine nodup_mapOn ?_ (List.nodup_range.filter _)
 intro i hi j hj e
 simp only [Prod.mk.injEq] at e
 obtain ⟨e1, e2⟩ := e
 have hi2 := List.mem_range.1 (List.mem_filter.1 hi).1
 have hj2 := List.mem_range.1 (List.mem_filter.1 hj).1
 unfold atX at e1
 unfold atY at e2
 rw [if_pos (by omega), if_pos (by omega)] at e1 e2
 omega
theorem ov_inj {x y : Int} {p q : Int × Int} (hp : nbB x y p.1 p.2 = true) (hq : nbB x y q.1 q.2 = true) (e : ovD x y p = ovD x y q) : p = q := by
 obtain ⟨_, _, h1⟩ := nbB_iff.1 hp
 obtain ⟨_, _, h2⟩ := nbB_iff.1 hq
 obtain ⟨a, b⟩ := p
 obtain ⟨c, d⟩ := q
 unfold ovD mn at e
 simp only [Prod.mk.injEq, decide_eq_decide] at e h1 h2 ⊢
 obtain ⟨e1, e2, e3⟩ := e
 split at e1 <;> split at e1 <;> split at e2 <;> split at e2 <;> omega
theorem ov_cov {x y : Int} {p : Int × Int} (hp : nbB x y p.1 p.2 = true) : covM (ovD x y p) x y = true := by
 obtain ⟨o1, o2, h1⟩ := nbB_iff.1 hp
 obtain ⟨a, b⟩ := p
 unfold Ok at o1 o2
 simp only at o1 o2 h1
 have hw : ∀ z : Int, -10 ≤ z → z ≤ 10 → wrap64 z = z := fun z h1 h2 => by unfold wrap64; omega
 have hok : okM (ovD x y (a, b)) = true ∧ ((x = (ovD x y (a, b)).1 ∧ y = (ovD x y (a, b)).2.1) ∨ (x = sx (ovD x y (a, b)).1 (ovD x y (a, b)).2.2 ∧ y = sy (ovD x y (a, b)).2.1 (ovD x y (a, b)).2.2)) := by
  unfold okM domB
  rw [Bool.and_eq_true, okB_iff, okB_iff]
  by_cases e : x = a
  ·subst e
   have e1 : ovD x y (x, b) = (x, mn y b, true) := by unfold ovD; rw [mn_le (Int.le_refl _)]; simp
   rw [e1]
   have e2 : mn y b = y ∧ b = y + 1 ∨ mn y b = b ∧ y = b + 1 := by unfold mn; split <;> omega
   generalize mn y b = m at e2
   have e3 : sx x true = x := rfl
   have e4 : sy m true = m + 1 := hw _ (by omega) (by omega)
   simp only [e3, e4, true_and, and_true]
   unfold Ok
   refine ⟨⟨by omega, by omega⟩, by omega⟩
  ·have e1 : ovD x y (a, b) = (mn x a, mn y b, false) := by unfold ovD; simp [e]
   rw [e1]
   have e2 : mn x a = x ∧ a = x + 1 ∨ mn x a = a ∧ x = a + 1 := by unfold mn; split <;> omega
   have e5 : mn y b = y := by unfold mn; split <;> omega
   generalize mn x a = m at e2
   rw [e5]
   have e3 : sx m false = m + 1 := hw _ (by omega) (by omega)
   have e4 : sy y false = y := rfl
   simp only [e3, e4, true_and, and_true]
   unfold Ok
   refine ⟨⟨by omega, by omega⟩, by omega⟩
 exact cov_of hok.1 hok.2
theorem cov_ov {x y : Int} {d : Dm} (h : covM d x y = true) : ∃ p : Int × Int, nbB x y p.1 p.2 = true ∧ ovD x y p = d := by
 have hk := (cov_two h).1
 unfold okM domB at hk
 rw [Bool.and_eq_true, okB_iff, okB_iff] at hk
 rcases Hgt.cov_who h with rfl | rfl | rfl | rfl
 ·refine ⟨(x, y + 1), ?_, ?_⟩
  ·rw [nbB_iff]; unfold Ok sx sy at *; unfold wrap64 at *; simp at hk ⊢; omega
  ·unfold ovD; rw [mn_le (Int.le_refl _), mn_le (by omega)]; simp
 ·refine ⟨(x + 1, y), ?_, ?_⟩
  ·rw [nbB_iff]; unfold Ok sx sy at *; unfold wrap64 at *; simp at hk ⊢; omega
  ·unfold ovD; rw [mn_le (by omega), mn_le (Int.le_refl _), decide_eq_false (by omega)]
 ·refine ⟨(x, y - 1), ?_, ?_⟩
  ·rw [nbB_iff]; unfold Ok sx sy at *; unfold wrap64 at *; simp at hk ⊢; omega
  ·unfold ovD; rw [mn_le (Int.le_refl _), mn_ge (by omega)]; simp
 ·refine ⟨(x - 1, y), ?_, ?_⟩
  ·rw [nbB_iff]; unfold Ok sx sy at *; unfold wrap64 at *; simp at hk ⊢; omega
  ·unfold ovD; rw [mn_ge (by omega), mn_le (Int.le_refl _), decide_eq_false (by omega)]
def nbP (xs : List Int) (x y : Int) : List (Int × Int) := (nbTo x y 64).filter fun p => decide (0 < cW xs (ovD x y p))
theorem over_nb (xs : List Int) (x y : Int) : (nbP xs x y).length = (overL (possD xs) x y).length := by
 rw [← List.length_map (f := ovD x y)]
 refine perm_of ?_ ((inc_nodup (possD_inc xs)).filter _) fun d => ?_
 ·refine nodup_mapOn (fun p hp q hq e => ?_) ((nb_nodup x y).filter _)
  exact ov_inj (mem_nb.1 (List.mem_filter.1 hp).1) (mem_nb.1 (List.mem_filter.1 hq).1) e
 ·rw [List.mem_map]
  unfold overL nbP
  rw [List.mem_filter, mem_poss]
  constructor
  ·rintro ⟨p, hp, rfl⟩
   rw [List.mem_filter, decide_eq_true_eq] at hp
   exact ⟨hp.2, ov_cov (mem_nb.1 hp.1)⟩
  ·rintro ⟨h1, h2⟩
   obtain ⟨p, hp, rfl⟩ := cov_ov h2
   exact ⟨p, List.mem_filter.2 ⟨mem_nb.2 hp, decide_eq_true h1⟩, rfl⟩
def cntP {α : Type} (p : α → Bool) (L : List α) (k : Nat) : Nat := ((L.take k).filter p).length
theorem cntP_yes {α : Type} {p : α → Bool} {L : List α} {k : Nat} (hk : k < L.length) (hp : p L[k] = true) : cntP p L (k + 1) = cntP p L k + 1 := by
 unfold cntP; rw [List.take_succ_eq_append_getElem hk, List.filter_append]; simp [hp]
theorem cntP_no {α : Type} {p : α → Bool} {L : List α} {k : Nat} (hk : k < L.length) (hp : p L[k] = false) : cntP p L (k + 1) = cntP p L k := by
 unfold cntP; rw [List.take_succ_eq_append_getElem hk, List.filter_append]; simp [hp]
theorem cntP_all {α : Type} {p : α → Bool} {L : List α} {k : Nat} (hk : k = L.length) : cntP p L k = (L.filter p).length := by unfold cntP; rw [hk, List.take_length]
theorem cntP_le {α : Type} (p : α → Bool) (L : List α) (k : Nat) : cntP p L k ≤ k := Nat.le_trans (List.length_filter_le _ _) (by rw [List.length_take]; omega)

set_option maxHeartbeats 4000000 in
theorem iCountOver (w : World) (A : Option Addr) (n cap B : Nat) (xs : List Int) (hx : xs.length = n) (hn : (n : Int) ≤ 1048576) (h : RowB w B A xs) (hB : B ≤ w.heap.size) (hcap : A = none → n = 0 ∧ cap = 0) (x y : Int) :
  Calls Try.prog 17 #[.agg #[.slice A n cap], .agg #[.int .i64 x, .int .i64 y]] w (Num (((overL (possD xs) x y).length : Nat) : Int) w) := by
 have HN := Lib.hid (fun W => implNb x y W)
 have HW := Lib.hid (fun W (hb : Below w.heap.size w W) x y b (h1 : Sm x) (h2 : Sm y) => show Calls Try.prog 54 #[.agg #[.slice A n cap], .agg #[.int .i64 x, .int .i64 y, .bool b]] W (Num (cW xs (x, y, b)) W) from iCountWith W A n cap B xs hx hn (h.below hb hB) (by have := hb.size; omega) hcap x y b h1 h2)
 have HS := Lib.hid (rc_start w (.slice A n cap) x y)
 have HMem := Lib.hid (fun p (hp : p ∈ nbTo x y 64) => mem_nb.1 hp)
 have HLn := Lib.hid (show (nbTo x y 64).length ≤ 64 from Nb.nbTo_length x y 64)
 rw [← over_nb]
 have HYes := Lib.hid (fun k (hk : k < (nbTo x y 64).length) hp => cntP_yes (p := fun p => decide (0 < cW xs (ovD x y p))) hk hp)
 have HNo := Lib.hid (fun k (hk : k < (nbTo x y 64).length) hp => cntP_no (p := fun p => decide (0 < cW xs (ovD x y p))) hk hp)
 have HEnd := Lib.hid (show ∀ k, k = (nbTo x y 64).length → cntP (fun p => decide (0 < cW xs (ovD x y p))) (nbTo x y 64) k = (nbP xs x y).length from fun k hk => cntP_all hk)
 have HCl := Lib.hid (fun k => cntP_le (fun p => decide (0 < cW xs (ovD x y p))) (nbTo x y 64) k)
 generalize (nbP xs x y).length = R at HEnd ⊢
 generalize cW xs = c at HW HYes HNo HEnd HCl
 unfold NbPost at HN
 generalize nbTo x y 64 = C at HN HMem HLn HYes HNo HEnd HCl
 clear hx hn h hB hcap
 go_enter Try.func17, Try.ntmps17
 go_wp2_with fail
 generalize (w.alloc (.cells #[.slice A n cap] 26)).alloc (.cells #[.int .i64 x, .int .i64 y] 38) = W0 at HS ⊢
 have T0 := HS.out
 obtain ⟨B0, r0, z0⟩ := id T0
 have e0 := z0.c0
 have e1 := z0.c1
 go_wp2_with fail
 refine (HN.out _).mono ?_
 rintro e w1 ⟨A1, cap1, rfl, hown1, hb1⟩
 obtain ⟨b, ob, hlb, hob, hsrc, hbz⟩ := src_cells (z := w.heap.size) hown1 (by have := B0.size; have := r0.lt; have := hb1.size; omega)
 obtain ⟨off, hA1, hR1⟩ := hsrc
 have HA1 := Lib.hid hA1
 have HRd := Lib.hid hR1
 have HT1 := Lib.hid (show Til.RC w (.slice A n cap) x y w1 ∧ b < w1.heap.size ∧ w1.heap[b]? = ob from ⟨T0.on hb1, hlb, hob⟩)
 clear HS T0 B0 r0 z0 e0 e1 hown1 hb1 hlb hob hbz hA1 hR1 HN
 obtain ⟨N, hN⟩ : ∃ N, N = C.length := ⟨_, rfl⟩
 rw [← hN] at HLn HA1 HEnd ⊢
 have HN := Lib.hid hN
 clear hN
 go_wp2_with fail
 go_loopw [5, 13] (fun ov si wr => ∃ t k : Nat, t ≤ N ∧ si = .int .i64 t ∧ ov = .int .i64 (k : Int) ∧ Hid (k = cntP (fun p => decide (0 < c (ovD x y p))) C t) ∧ Hid (Til.RC w (.slice A n cap) x y wr ∧ b < wr.heap.size ∧ wr.heap[b]? = ob)) (fun _ si _ => N - (intOf si).toNat)
 case atStart => exact ⟨0, 0, Nat.zero_le _, rfl, rfl, Lib.hid rfl, HT1⟩
 case round =>
  clear HT1
  obtain ⟨t, k, ht, rfl, rfl, HK, HT⟩ := hrel
  have hN64 := HLn.out
  have hk64 : k ≤ 64 := by have h1 := HCl.out t; have h2 := HK.out; omega
  by_cases hlt : t < N
  ·have hti : t < C.length := by rw [← HN.out]; exact hlt
   obtain rfl := HA1.out (by omega)
   obtain ⟨T1, l1, b1⟩ := HT.out
   obtain ⟨c0, c1⟩ := HRd.out _ b1 t hti
   have HY := Lib.hid (HYes.out t hti)
   have HO := Lib.hid (HNo.out t hti)
   have hnb := HMem.out C[t] (List.getElem_mem hti)
   generalize C[t] = p at c0 c1 HY HO hnb
   obtain ⟨u, v⟩ := p
   simp only at c0 c1 hnb
   have HOv := Lib.hid (fun W => iDominoOver_ok x y u v hnb W)
   have hsm : Sm (mn x u) ∧ Sm (mn y v) := by
    obtain ⟨o1, o2, _⟩ := nbB_iff.1 hnb
    unfold Ok at o1 o2
    unfold mn Sm
    constructor <;> split <;> omega
   have HD := Lib.hid (show ovD x y (u, v) = (mn x u, mn y v, decide (x = u)) from rfl)
   rw [HD.out] at HY HO
   generalize mn x u = dx at HOv hsm HY HO
   generalize mn y v = dy at HOv hsm HY HO
   generalize decide (x = u) = db at HOv HY HO
   have HWd := Lib.hid (fun W hb => HW.out W hb dx dy db hsm.1 hsm.2)
   obtain ⟨q, hq⟩ : ∃ q, q = c (dx, dy, db) := ⟨_, rfl⟩
   rw [← hq] at HWd HY HO
   have T2 := T1.on (below_alloc1 wr (.cells #[.int .i64 u, .int .i64 v] 38))
   have l2 : b < (wr.alloc (.cells #[.int .i64 u, .int .i64 v] 38)).heap.size := by simp; omega
   have b2 : (wr.alloc (.cells #[.int .i64 u, .int .i64 v] 38)).heap[b]? = ob := ((below_alloc1 wr _).block b l1).trans b1
   have Z2 := At2.new wr u v
   have htN : (t : Int) < (N : Int) := by omega
   clear hq hnb hsm HD
   go_upto_region 5 with fail
   generalize wr.alloc (.cells #[.int .i64 u, .int .i64 v] 38) = W2 at T2 l2 b2 Z2 ⊢
   generalize wr.heap.size = zb at Z2 ⊢
   clear c0 c1 T1 l1 b1 HT
   have e0 := T2.2.2.c0
   have e1 := T2.2.2.c1
   have f0 := Z2.c0
   have f1 := Z2.c1
   go_wp2_with fail
   refine (HOv.out _).mono ?_
   rintro e w3 ⟨rfl, hb3⟩
   have T3 := T2.on hb3
   have l3 : b < w3.heap.size := Nat.lt_of_lt_of_le l2 hb3.size
   have b3 := (hb3.block b l2).trans b2
   clear T2 l2 b2 Z2 e0 e1 f0 f1 hb3 HOv
   have T4 := T3.on (below_alloc1 w3 (.cells #[.int .i64 dx, .int .i64 dy, .bool db] 41))
   have l4 : b < (w3.alloc (.cells #[.int .i64 dx, .int .i64 dy, .bool db] 41)).heap.size := by simp; omega
   have b4 : (w3.alloc (.cells #[.int .i64 dx, .int .i64 dy, .bool db] 41)).heap[b]? = ob := ((below_alloc1 w3 _).block b l3).trans b3
   have D4 := At3.new 41 w3 dx dy db
   go_upto_region 6 with fail
   generalize w3.alloc (.cells #[.int .i64 dx, .int .i64 dy, .bool db] 41) = W4 at T4 l4 b4 D4 ⊢
   generalize w3.heap.size = pd at D4 ⊢
   clear T3 l3 b3
   have r0 := T4.2.1.c0
   have d0 := D4.c0
   have d1 := D4.c1
   have d2 := D4.c2
   go_wp2_with fail
   refine (HWd.out _ T4.1).mono ?_
   rintro e w5 ⟨rfl, hb5⟩
   have HT5 := Lib.hid (show Til.RC w (.slice A n cap) x y w5 ∧ b < w5.heap.size ∧ w5.heap[b]? = ob from ⟨T4.on hb5, Nat.lt_of_lt_of_le l4 hb5.size, (hb5.block b l4).trans b4⟩)
   clear T4 l4 b4 D4 r0 d0 d1 d2 hb5 HWd
   by_cases hp : 0 < q
   ·have HKn := Lib.hid (show k + 1 = cntP (fun p => decide (0 < c (ovD x y p))) C (t + 1) from by rw [HY.out (decide_eq_true hp), ← HK.out])
    clear HY HO
    go_wp2
    go_roundw
    case rel => exact ⟨t + 1, k + 1, by omega, by go_num, by go_num, HKn, HT5⟩
    case measure => (simp [intOf] <;> omega)
   ·have HKn := Lib.hid (show k = cntP (fun p => decide (0 < c (ovD x y p))) C (t + 1) from by rw [HO.out (decide_eq_false hp), ← HK.out])
    clear HY HO
    go_wp2
    go_roundw
    case rel => exact ⟨t + 1, k, by omega, by go_num, rfl, HKn, HT5⟩
    case measure => (simp [intOf] <;> omega)
  ·obtain rfl : N = t := by omega
   have HKe := Lib.hid (show k = R from by rw [HK.out]; exact HEnd.out _ rfl)
   have HBe := HT.out.1.1
   clear HK HT
   go_wp2
   go_ret
   exact ⟨by rw [HKe.out]; rfl, HBe⟩
end Go.Proofs.Ytjfagpmklifjlaa.Frd

namespace Go.Proofs.Ytjfagpmklifjlaa.Dom
open Go.RowKit Go.Proofs.Ytjfagpmklifjlaa.Cell Go.Joins
end Go.Proofs.Ytjfagpmklifjlaa.Dom
namespace Go.Proofs.Ytjfagpmklifjlaa.Flp
set_option linter.unusedVariables false
set_option linter.unusedSimpArgs false
set_option maxRecDepth 100000
open Go.RowKit Go.Proofs.Ytjfagpmklifjlaa.Cell Go.Proofs.Ytjfagpmklifjlaa.Dom Go.Proofs.Ytjfagpmklifjlaa.Dms Go.Joins

abbrev dmV (d : Dm) : Value := .agg #[.int .i64 d.1, .int .i64 d.2.1, .bool d.2.2]
section
variable {w W W' : World} {x y : Int} {d f : Dm}
end
def HasP (L : List Dm) (d : Dm) (w : World) (e : Ending) (w' : World) : Prop := ∃ r : Int, e = .returned (.int .i64 r) ∧ decide (0 ≤ r) = decide (d ∈ L) ∧ Below w.heap.size w w'
theorem mkHas {L : List Dm} {d : Dm} {w W : World} {r : Int} (h : decide (0 ≤ r) = decide (d ∈ L)) (hb : Below w.heap.size w W) : HasP L d w (.returned (.int .i64 r)) W := ⟨r, rfl, h, hb⟩
theorem take_no {L : List Dm} {k : Nat} {d : Dm} (hk : k < L.length) (h : d ∉ L.take k) (h2 : L[k] ≠ d) : d ∉ L.take (k + 1) := by
 rw [List.take_add_one, List.getElem?_eq_getElem hk, List.mem_append]
 rintro (q | q)
 ·exact h q
 ·simp at q; exact h2 q.symm
def DB (w : World) (d : Dm) (W : World) : Prop := Below w.heap.size w W ∧ At3 41 W w.heap.size d.1 d.2.1 d.2.2
theorem db_start (d : Dm) (w : World) : DB w d (w.alloc (.cells #[.int .i64 d.1, .int .i64 d.2.1, .bool d.2.2] 41)) := ⟨below_alloc1 w _, At3.new _ w _ _ _⟩
theorem DB.on {w W W' : World} {d : Dm} (h : DB w d W) (hb : Below W.heap.size W W') : DB w d W' := ⟨h.1.trans (hb.mono h.1.size), At3.on h.2 hb⟩
set_option maxHeartbeats 2000000 in
theorem sHas (w : World) (A : Option Addr) (n cap B : Nat) (L : List Dm) (hL : L.length = n) (hn : (n : Int) ≤ 9223372036854775807) (h : RowM w B A L) (hB : B ≤ w.heap.size) (d : Dm) :
  Calls Try.prog 48 #[.slice A n cap, dmV d] w (HasP L d w) := by
 obtain ⟨b, off, hA, hc⟩ := h.at
 have HA := Lib.hid hA
 have HC := Lib.hid hc
 have HL := Lib.hid hL
 have T0 := Lib.hid (db_start d w)
 obtain ⟨x, y, c⟩ := d
 clear hA hc hL h
 go_enter Try.func48, Try.ntmps48
 go_wp2_with fail
 go_loopw [5] (fun i wr => ∃ k : Nat, k ≤ n ∧ i = .int .i64 k ∧ DB w (x, y, c) wr ∧ Hid ((x, y, c) ∉ L.take k)) (fun i _ => n - (intOf i).toNat)
 case atStart => exact ⟨0, Nat.zero_le _, rfl, T0.out, Lib.hid (by simp)⟩
 case round =>
  clear T0
  obtain ⟨k, hk, rfl, hK, HN⟩ := hrel
  by_cases hlt : k < n
  ·have hkL : k < L.length := by rw [HL.out]; exact hlt
   obtain ⟨rfl, hbB⟩ := HA.out (by omega)
   obtain ⟨e0, e1, e2⟩ := HC.out k hkL
   have d0 := (hK.1.cell (p := ⟨b, off + k * 3, none⟩) (by show b < _; omega)).trans e0
   have d1 := (hK.1.cell (p := ⟨b, off + k * 3 + 1, none⟩) (by show b < _; omega)).trans e1
   have d2 := (hK.1.cell (p := ⟨b, off + k * 3 + 2, none⟩) (by show b < _; omega)).trans e2
   have c0 := At3.c0 hK.2
   have c1 := At3.c1 hK.2
   have c2 := At3.c2 hK.2
   have HX := Lib.hid (fun hne => take_no hkL HN.out hne)
   have HIn := Lib.hid (fun (he : L[k] = (x, y, c)) => show (x, y, c) ∈ L from he ▸ List.getElem_mem hkL)
   generalize L[k] = p at d0 d1 d2 HX HIn
   obtain ⟨u, v, a⟩ := p
   simp only at d0 d1 d2 c0 c1 c2
   have HK := Lib.hid hK
   clear e0 e1 e2 HN hK
   by_cases q : u = x ∧ v = y ∧ a = c
   ·obtain ⟨rfl, rfl, rfl⟩ := q
    have HI := Lib.hid (HIn.out rfl)
    clear HX HIn
    have huu : (u == u) = true := by simp
    have hvv : (v == v) = true := by simp
    have haa : (a == a) = true := by simp
    go_wp2_with fail
    go_quiet (fail)
    go_wp2
    go_ret
    exact mkHas (by rw [decide_eq_true HI.out]; exact decide_eq_true (by omega)) (drewBelow HK.out.1 _)
   ·have HY := Lib.hid (HX.out (fun e => by injection e with e1 e2; injection e2 with e2 e3; exact q ⟨e1, e2, e3⟩))
    clear HX HIn
    by_cases q1 : u = x
    ·subst q1
     have huu : (u == u) = true := by simp
     by_cases q2 : v = y
     ·subst q2
      have hvv : (v == v) = true := by simp
      have haf : (a == c) = false := by rw [beq_eq_false_iff_ne]; exact fun e => q ⟨rfl, rfl, e⟩
      clear q
      go_wp2_with fail
      go_quiet (fail)
      go_wp2
      go_roundw
      case rel => exact ⟨k + 1, by omega, by go_num, HK.out.on (drewBelow (Below.refl _ _) _), HY⟩
      case measure => (simp [intOf] <;> omega)
     ·have hvf : (v == y) = false := by rw [beq_eq_false_iff_ne]; exact q2
      clear q
      go_wp2_with fail
      go_quiet (fail)
      go_wp2
      go_roundw
      case rel => exact ⟨k + 1, by omega, by go_num, HK.out.on (drewBelow (Below.refl _ _) _), HY⟩
      case measure => (simp [intOf] <;> omega)
    ·have huf : (u == x) = false := by rw [beq_eq_false_iff_ne]; exact q1
     clear q
     go_wp2_with fail
     go_quiet (fail)
     go_wp2
     go_roundw
     case rel => exact ⟨k + 1, by omega, by go_num, HK.out.on (drewBelow (Below.refl _ _) _), HY⟩
     case measure => (simp [intOf] <;> omega)
  ·obtain rfl : k = n := by omega
   have HB := Lib.hid hK.1
   have HE := Lib.hid (show (x, y, c) ∉ L by have := HN.out; rw [List.take_of_length_le (by rw [HL.out]; exact Nat.le_refl _)] at this; exact this)
   clear HN hK
   go_wp2
   go_ret
   exact mkHas (by rw [decide_eq_false HE.out]; rfl) HB.out
end Go.Proofs.Ytjfagpmklifjlaa.Flp

namespace Go.Proofs.Ytjfagpmklifjlaa.Frd
set_option linter.unusedVariables false
set_option linter.unusedSimpArgs false
set_option maxRecDepth 100000
open Go.RowKit Go.Proofs.Ytjfagpmklifjlaa.Cell Go.Proofs.Ytjfagpmklifjlaa.Dom Go.Proofs.Ytjfagpmklifjlaa.Dms Go.Proofs.Ytjfagpmklifjlaa.Til Go.Proofs.Ytjfagpmklifjlaa.Fr Go.Joins

def chgN (L M : List Dm) : Nat := (L.filter fun d => !decide (d ∈ M)).length
theorem chg_none {L M : List Dm} (h : ∀ d ∈ L, d ∈ M) : chgN L M = 0 := by
 unfold chgN
 rw [List.length_eq_zero_iff, List.filter_eq_nil_iff]
 intro d hd
 simp [h d hd]
set_option maxHeartbeats 2000000 in
theorem sCountChanges (w : World) (A : Option Addr) (n cap B : Nat) (L : List Dm) (hL : L.length = n) (hn : (n : Int) ≤ 1048576) (h : RowM w B A L) (hB : B ≤ w.heap.size)
  (A' : Option Addr) (n' cap' B' : Nat) (M : List Dm) (hM : M.length = n') (hn' : (n' : Int) ≤ 1048576) (h' : RowM w B' A' M) (hB' : B' ≤ w.heap.size) :
  Calls Try.prog 15 #[.slice A n cap, .slice A' n' cap'] w (Num ((chgN L M : Nat) : Int) w) := by
 obtain ⟨b, off, hA, hc⟩ := h.at
 have HA := Lib.hid (fun h0 => (hA h0).1)
 have HHs := Lib.hid (fun W (hb : Below w.heap.size w W) d => Flp.sHas W A' n' cap' B' M hM (by omega) (h'.below hb hB') (by have := hb.size; omega) d)
 have HRd := Lib.hid (show ∀ W, Below w.heap.size w W → ∀ j (hj : j < L.length), W.cell? ⟨b, off + j * 3, none⟩ = some (.int .i64 L[j].1) ∧ W.cell? ⟨b, off + j * 3 + 1, none⟩ = some (.int .i64 L[j].2.1) ∧ W.cell? ⟨b, off + j * 3 + 2, none⟩ = some (.bool L[j].2.2) from fun W hb j hj => by
  obtain ⟨c0, c1, c2⟩ := hc j hj
  have hl : b < w.heap.size := by have := (hA (by omega)).2; omega
  exact ⟨(hb.cell (p := ⟨b, off + j * 3, none⟩) hl).trans c0, (hb.cell (p := ⟨b, off + j * 3 + 1, none⟩) hl).trans c1, (hb.cell (p := ⟨b, off + j * 3 + 2, none⟩) hl).trans c2⟩)
 have HYes := Lib.hid (fun k (hk : k < L.length) (hp : (fun d : Dm => !decide (d ∈ M)) L[k] = true) => cntP_yes (p := fun d : Dm => !decide (d ∈ M)) hk hp)
 have HNo := Lib.hid (fun k (hk : k < L.length) (hp : (fun d : Dm => !decide (d ∈ M)) L[k] = false) => cntP_no (p := fun d : Dm => !decide (d ∈ M)) hk hp)
 have HEnd := Lib.hid (show ∀ k, k = L.length → cntP (fun d : Dm => !decide (d ∈ M)) L k = chgN L M from fun k hk => cntP_all hk)
 have HCl := Lib.hid (fun k => cntP_le (fun d : Dm => !decide (d ∈ M)) L k)
 have HL := Lib.hid hL
 have hn2 : n ≤ 1048576 := by omega
 rw [hL] at HA
 generalize hR : chgN L M = R at HEnd ⊢
 clear hA hc h hB h' hB' hL hM hn hn' hR
 go_enter Try.func15, Try.ntmps15
 go_wp2_with fail
 go_loopw [5, 6] (fun ov si wr => ∃ t k : Nat, t ≤ n ∧ si = .int .i64 t ∧ ov = .int .i64 (k : Int) ∧ Hid (k = cntP (fun d : Dm => !decide (d ∈ M)) L t) ∧ Hid (Below w.heap.size w wr)) (fun _ si _ => n - (intOf si).toNat)
 case atStart => exact ⟨0, 0, Nat.zero_le _, rfl, rfl, Lib.hid rfl, Lib.hid (Below.refl _ _)⟩
 case round =>
  obtain ⟨t, k, ht, rfl, rfl, HK, HB⟩ := hrel
  have hkn : k ≤ 1048576 := by have h1 := HCl.out t; have h2 := HK.out; omega
  by_cases hlt : t < n
  ·have hti : t < L.length := by rw [HL.out]; exact hlt
   obtain rfl := HA.out (by omega)
   obtain ⟨c0, c1, c2⟩ := HRd.out _ HB.out t hti
   have HY := Lib.hid (HYes.out t hti)
   have HO := Lib.hid (HNo.out t hti)
   generalize L[t] = d at c0 c1 c2 HY HO
   have HH := Lib.hid (fun W hb => HHs.out W hb d)
   obtain ⟨u, v, s⟩ := d
   simp only at c0 c1 c2
   have HM := Lib.hid (show decide ((u, v, s) ∈ M) = decide ((u, v, s) ∈ M) from rfl)
   have htN : (t : Int) < (n : Int) := by omega
   go_wp2_with fail
   refine (HH.out _ HB.out).mono ?_
   rintro e w2 ⟨r, rfl, hr, hb2⟩
   have HB2 := Lib.hid (HB.out.trans (hb2.mono HB.out.size))
   have HR := Lib.hid hr
   clear c0 c1 c2 hb2 HB HH hr HM
   by_cases hp : r < 0
   ·have HKn := Lib.hid (show k + 1 = cntP (fun d : Dm => !decide (d ∈ M)) L (t + 1) from by
     rw [HY.out (by show (!decide ((u, v, s) ∈ M)) = true; rw [← HR.out, decide_eq_false (by omega)]; rfl), ← HK.out])
    clear HY HO HR
    go_wp2
    go_roundw
    case rel => exact ⟨t + 1, k + 1, by omega, by go_num, by go_num, HKn, HB2⟩
    case measure => (simp [intOf] <;> omega)
   ·have HKn := Lib.hid (show k = cntP (fun d : Dm => !decide (d ∈ M)) L (t + 1) from by
     rw [HO.out (by show (!decide ((u, v, s) ∈ M)) = false; rw [← HR.out, decide_eq_true (by omega)]; rfl), ← HK.out])
    clear HY HO HR
    go_wp2
    go_roundw
    case rel => exact ⟨t + 1, k, by omega, by go_num, rfl, HKn, HB2⟩
    case measure => (simp [intOf] <;> omega)
  ·obtain rfl : n = t := by omega
   have HKe := Lib.hid (show k = R from by rw [HK.out]; exact HEnd.out _ HL.out.symm)
   have HBe := HB.out
   clear HK HB
   go_wp2
   go_ret
   exact ⟨by rw [HKe.out]; rfl, HBe⟩
end Go.Proofs.Ytjfagpmklifjlaa.Frd

namespace Go.Proofs.Ytjfagpmklifjlaa.Fr
set_option linter.unusedVariables false
set_option linter.unusedSimpArgs false
open Go.RowKit Go.Proofs.Ytjfagpmklifjlaa.Pure Go.Proofs.Ytjfagpmklifjlaa.Reg Go.Proofs.Ytjfagpmklifjlaa.Cnt Go.Proofs.Ytjfagpmklifjlaa.Dms Go.Proofs.Ytjfagpmklifjlaa.Til Go.Proofs.Ytjfagpmklifjlaa.Grd Go.Joins
open Go.Proofs.Ytjfagpmklifjlaa.Lis (allT all_til all_length)

theorem put_bitT : ∀ r : Fin 256, ∀ k j : Fin 8, bitB (putB ((r.val : Nat) : Int) k.val true) j.val = (bitB ((r.val : Nat) : Int) j.val || decide (j.val = k.val)) := by decide +kernel
theorem okR_on {xs : List Int} (ho : okR xs) {x y : Nat} (hx : x < 8) (hy : y < 8) : okR (withR xs x y true) := by
 refine ⟨by rw [withR_length ho.1]; omega, fun r hr => ?_⟩
 obtain ⟨i, hi, e⟩ := List.getElem_of_mem hr
 have h := rowD_with ho.1 x hy true i
 rw [rowD_at (List.getElem?_eq_getElem hi), e] at h
 rw [h]
 have r0 := rowD_ok ho y
 have t := table r0.1 r0.2 hx
 by_cases q : i = y
 ·rw [if_pos q]; exact ⟨t.2.2.2.2.2.1, t.2.2.2.2.2.2.1⟩
 ·rw [if_neg q]; exact rowD_ok ho i
theorem has_out {xs : List Int} {p q : Int} (h : ¬ ((0 ≤ p ∧ p ≤ 7) ∧ 0 ≤ q ∧ q ≤ 7)) : hasB xs p q = false := by
 cases e : hasB xs p q with
 | false => rfl
 | true =>
  obtain ⟨_, a0, a1, a2, a3, _⟩ := hasB_iff.1 e
  exact absurd ⟨⟨a0, by omega⟩, a2, by omega⟩ h
theorem has_on {xs : List Int} (ho : okR xs) {x y : Nat} (hx : x < 8) (hy : y < 8) (u v : Int) : hasB (withR xs x y true) u v = (hasB xs u v || decide (u = (x : Int) ∧ v = (y : Int))) := by
 by_cases h : (0 ≤ u ∧ u ≤ 7) ∧ 0 ≤ v ∧ v ≤ 7
 ·obtain ⟨p, rfl⟩ : ∃ n : Nat, u = (n : Int) := ⟨u.toNat, by omega⟩
  obtain ⟨q, rfl⟩ : ∃ n : Nat, v = (n : Int) := ⟨v.toNat, by omega⟩
  rw [has_at (okR_on ho hx hy) (by omega) (by omega), has_at ho (by omega) (by omega), rowD_with ho.1 x hy]
  by_cases e : q = y
  ·subst e
   rw [if_pos rfl]
   have r0 := rowD_ok ho q
   have t := put_bitT ⟨(rowD xs q).toNat, by omega⟩ ⟨x, hx⟩ ⟨p, by omega⟩
   have e : (((rowD xs q).toNat : Nat) : Int) = rowD xs q := Int.toNat_of_nonneg r0.1
   simp only [e] at t
   rw [t]
   congr 1
   rw [Bool.eq_iff_iff, decide_eq_true_iff, decide_eq_true_iff]
   omega
  ·rw [if_neg e, decide_eq_false (by omega), Bool.or_false]
 ·rw [has_out h, has_out h, decide_eq_false (by omega)]; rfl
def onR (ys : List Int) (U : List (Int × Int)) : List Int := U.foldl (fun r p => withR r p.1.toNat p.2.toNat true) ys
theorem onR_take {ys : List Int} {U : List (Int × Int)} {k : Nat} (hk : k < U.length) : onR ys (U.take (k + 1)) = withR (onR ys (U.take k)) U[k].1.toNat U[k].2.toNat true := by
 unfold onR; rw [List.take_succ_eq_append_getElem hk, List.foldl_append]; rfl
theorem onR_all : ∀ (U : List (Int × Int)) {ys : List Int}, okR ys → ys.length = 8 → (∀ p ∈ U, (0 ≤ p.1 ∧ p.1 ≤ 7) ∧ 0 ≤ p.2 ∧ p.2 ≤ 7) → okR (onR ys U) ∧ (onR ys U).length = 8 ∧ ∀ u v, hasB (onR ys U) u v = true ↔ hasB ys u v = true ∨ (u, v) ∈ U
 | [], ys, h1, h2, _ => ⟨h1, h2, fun u v => by simp [onR]⟩
 | p :: r, ys, h1, h2, h3 => by
  obtain ⟨x, y⟩ := p
  have hp := h3 (x, y) (List.mem_cons_self ..)
  obtain ⟨a, rfl⟩ : ∃ n : Nat, x = (n : Int) := ⟨x.toNat, by simp only at hp; omega⟩
  obtain ⟨b, rfl⟩ : ∃ n : Nat, y = (n : Int) := ⟨y.toNat, by simp only at hp; omega⟩
  simp only at hp
  have ha : a < 8 := by omega
  have hb : b < 8 := by omega
  obtain ⟨k1, k2, k3⟩ := onR_all r (ys := withR ys a b true) (okR_on h1 ha hb) (withR_length h1.1 a b true) (fun q hq => h3 q (List.mem_cons_of_mem _ hq))
  refine ⟨k1, k2, fun u v => ?_⟩
  show hasB (onR (withR ys a b true) r) u v = true ↔ _
  rw [k3, has_on h1 ha hb, Bool.or_eq_true, decide_eq_true_eq, List.mem_cons, Prod.mk.injEq, or_assoc]
def rows0 : List Int := List.replicate 8 0
theorem rows0_ok : okR rows0 ∧ rows0.length = 8 := ⟨⟨by decide, by decide⟩, rfl⟩
theorem rows0_has (u v : Int) : hasB rows0 u v = false := by
 by_cases h : (0 ≤ u ∧ u ≤ 7) ∧ 0 ≤ v ∧ v ≤ 7
 ·obtain ⟨p, rfl⟩ : ∃ n : Nat, u = (n : Int) := ⟨u.toNat, by omega⟩
  obtain ⟨q, rfl⟩ : ∃ n : Nat, v = (n : Int) := ⟨v.toNat, by omega⟩
  rw [has_at rows0_ok.1 (by omega) (by omega)]
  have t : ∀ p q : Fin 8, bitB (rowD rows0 q.val) p.val = false := by decide +kernel
  exact t ⟨p, by omega⟩ ⟨q, by omega⟩
 ·exact has_out h
def freeR (xs : List Int) : List Int := if 0 < tilesR xs then freeD xs (forcD xs) else xs
theorem forcD_ok {xs : List Int} : ∀ d ∈ forcD xs, okM d = true := fun d hd => by
 have h := (forcD_forc xs).2 d
 obtain ⟨⟨L, hL⟩, h2⟩ := h.1 hd
 exact part_valid (til_iff.1 hL).1 d (h2 L hL)
theorem unc_small {xs : List Int} {F : List Dm} : ∀ p ∈ unc F (cellsR xs), (0 ≤ p.1 ∧ p.1 ≤ 7) ∧ 0 ≤ p.2 ∧ p.2 ≤ 7 := fun p hp => by
 obtain ⟨x, y⟩ := p
 obtain ⟨_, a0, a1, a2, a3, _⟩ := hasB_iff.1 (mem_cells.1 (List.mem_filter.1 hp).1)
 simp only
 omega
theorem free_rows {xs : List Int} (ok : okR xs) : onR rows0 (unc (forcD xs) (cellsR xs)) = freeD xs (forcD xs) := by
 obtain ⟨k1, k2, k3⟩ := onR_all (unc (forcD xs) (cellsR xs)) rows0_ok.1 rows0_ok.2 unc_small
 obtain ⟨f1, f2, f3⟩ := freeD_less ok (F := forcD xs) forcD_ok
 refine rows_same k1 f1 k2 f3 fun u v => ?_
 rw [f2, Bool.eq_iff_iff, k3, rows0_has]
 unfold unc
 rw [List.mem_filter, mem_cells]
 simp
end Go.Proofs.Ytjfagpmklifjlaa.Fr
