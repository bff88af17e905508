/- TfQ, Cor, End in one text. -/
import Derived.Test.YtmajllgfmclcoaaGreatMc22
import Derived.Test.YtmajllgfmclcoaaGreatMc19
import Derived.Test.YtmajllgfmclcoaaGreatMc01
import Derived.Deep.RegionHeld3
import Derived.Deep.Cut
import Derived.Lib.Hide
import Derived.Test.YtmajllgfmclcoaaGreatMc12
import Derived.Deep.DeepAppendRoom

namespace Go.Proofs.YtmajllgfmclcoaaGreat.Hgt
set_option linter.unusedVariables false
set_option linter.unusedSimpArgs false
open Go.RowKit Go.Proofs.YtmajllgfmclcoaaGreat.Pure Go.Proofs.YtmajllgfmclcoaaGreat.Cell Go.Proofs.YtmajllgfmclcoaaGreat.Dom Go.Proofs.YtmajllgfmclcoaaGreat.Dms Go.Proofs.YtmajllgfmclcoaaGreat.Til Go.Proofs.YtmajllgfmclcoaaGreat.Flp Go.Joins

def dOf (a b : Int × Int) : Dm := (mn a.1 b.1, mn a.2 b.2, decide (a.1 = b.1))
theorem nb_cells {a b : Int × Int} (h : nbB a.1 a.2 b.1 b.2 = true) : okM (dOf a b) = true ∧
  ((((dOf a b).1, (dOf a b).2.1) = a ∧ (sx (dOf a b).1 (dOf a b).2.2, sy (dOf a b).2.1 (dOf a b).2.2) = b) ∨ (((dOf a b).1, (dOf a b).2.1) = b ∧ (sx (dOf a b).1 (dOf a b).2.2, sy (dOf a b).2.1 (dOf a b).2.2) = a)) := by
 obtain ⟨h1, h2, h3⟩ := nbB_iff.1 h
 obtain ⟨x, y⟩ := a
 obtain ⟨u, v⟩ := b
 unfold Ok at h1 h2
 simp only at h1 h2 h3
 unfold dOf
 simp only
 rcases h3 with ⟨rfl, q⟩ | ⟨rfl, q⟩
 ·have e0 : mn x x = x := by unfold mn; split <;> rfl
  rw [e0, decide_eq_true (rfl : x = x)]
  rcases q with rfl | rfl
  ·have e1 : mn (v + 1) v = v := by unfold mn; rw [if_pos (by omega)]
   have w1 : sy v true = v + 1 := by unfold sy; rw [if_pos rfl]; exact wrap_in (by omega) (by omega)
   have w2 : sx x true = x := by unfold sx; rw [if_pos rfl]
   rw [e1, w1, w2]
   exact ⟨mk_dn (by omega), .inr ⟨rfl, rfl⟩⟩
  ·have e1 : mn y (y + 1) = y := by unfold mn; rw [if_neg (by omega)]
   have w1 : sy y true = y + 1 := by unfold sy; rw [if_pos rfl]; exact wrap_in (by omega) (by omega)
   have w2 : sx x true = x := by unfold sx; rw [if_pos rfl]
   rw [e1, w1, w2]
   exact ⟨mk_dn (by omega), .inl ⟨rfl, rfl⟩⟩
 ·have e0 : mn y y = y := by unfold mn; split <;> rfl
  rw [e0]
  rcases q with rfl | rfl
  ·have e1 : mn (u + 1) u = u := by unfold mn; rw [if_pos (by omega)]
   have w1 : sx u false = u + 1 := by unfold sx; rw [if_neg (by simp)]; exact wrap_in (by omega) (by omega)
   have w2 : sy y false = y := by unfold sy; rw [if_neg (by simp)]
   rw [e1, decide_eq_false (by omega : ¬ u + 1 = u), w1, w2]
   exact ⟨mk_rt (by omega), .inr ⟨rfl, rfl⟩⟩
  ·have e1 : mn x (x + 1) = x := by unfold mn; rw [if_neg (by omega)]
   have w1 : sx x false = x + 1 := by unfold sx; rw [if_neg (by simp)]; exact wrap_in (by omega) (by omega)
   have w2 : sy y false = y := by unfold sy; rw [if_neg (by simp)]
   rw [e1, decide_eq_false (by omega : ¬ x = x + 1), w1, w2]
   exact ⟨mk_rt (by omega), .inl ⟨rfl, rfl⟩⟩
def pairG (xs hs : List Int) (k i : Nat) (e : Dm) : Prop :=
 ∃ a b ca cb, (cellsR xs)[a]? = some ca ∧ (cellsR xs)[b]? = some cb ∧ ((b < k ∧ a < b) ∨ (b = k ∧ a < i)) ∧ nbB ca.1 ca.2 cb.1 cb.2 = true ∧ e = dOf ca cb ∧ gap hs e
theorem pair_zero (xs hs : List Int) : ∀ e, e ∈ ([] : List Dm) ↔ pairG xs hs 0 0 e := fun e =>
 ⟨fun h => by simp at h, fun ⟨a, b, ca, cb, _, _, h, _⟩ => by omega⟩
theorem pair_next {xs hs : List Int} {C : List Dm} {k : Nat} (hC : ∀ e, e ∈ C ↔ pairG xs hs k k e) : ∀ e, e ∈ C ↔ pairG xs hs (k + 1) 0 e := fun e => by
 rw [hC]
 constructor
 ·rintro ⟨a, b, ca, cb, h1, h2, h3, h4⟩
  exact ⟨a, b, ca, cb, h1, h2, .inl (by omega), h4⟩
 ·rintro ⟨a, b, ca, cb, h1, h2, h3, h4⟩
  exact ⟨a, b, ca, cb, h1, h2, by omega, h4⟩
theorem pair_step {xs hs : List Int} {C : List Dm} {k i : Nat} {ca cb : Int × Int} (ha : (cellsR xs)[i]? = some ca) (hb : (cellsR xs)[k]? = some cb) (hC : ∀ e, e ∈ C ↔ pairG xs hs k i e) :
  (nbB ca.1 ca.2 cb.1 cb.2 = true → gap hs (dOf ca cb) → ∀ e, e ∈ C ++ [dOf ca cb] ↔ pairG xs hs k (i + 1) e) ∧
  (¬ (nbB ca.1 ca.2 cb.1 cb.2 = true ∧ gap hs (dOf ca cb)) → ∀ e, e ∈ C ↔ pairG xs hs k (i + 1) e) := by
 have key : ∀ e, pairG xs hs k (i + 1) e ↔ pairG xs hs k i e ∨ (nbB ca.1 ca.2 cb.1 cb.2 = true ∧ gap hs (dOf ca cb) ∧ e = dOf ca cb) := fun e => by
  constructor
  ·rintro ⟨a, b, ca', cb', h1, h2, h3, h4, h5, h6⟩
   by_cases q : b = k ∧ a = i
   ·obtain ⟨rfl, rfl⟩ := q
    rw [ha] at h1
    rw [hb] at h2
    injection h1 with h1
    injection h2 with h2
    subst h1 h2
    exact .inr ⟨h4, h5 ▸ h6, h5⟩
   ·exact .inl ⟨a, b, ca', cb', h1, h2, by omega, h4, h5, h6⟩
  ·rintro (⟨a, b, ca', cb', h1, h2, h3, h4⟩ | ⟨h4, h5, rfl⟩)
   ·exact ⟨a, b, ca', cb', h1, h2, by omega, h4⟩
   ·exact ⟨i, k, ca, cb, ha, hb, .inr ⟨rfl, by omega⟩, h4, rfl, h5⟩
 refine ⟨fun h1 h2 e => ?_, fun hno e => ?_⟩
 ·rw [key, List.mem_append, hC, List.mem_singleton]
  exact ⟨fun h => h.imp id (fun q => ⟨h1, h2, q⟩), fun h => h.imp id (fun q => q.2.2)⟩
 ·rw [key, hC]
  exact ⟨.inl, fun h => h.resolve_right (fun q => hno ⟨q.1, q.2.1⟩)⟩
theorem pair_tell {xs hs : List Int} {C : List Dm} (hC : ∀ e, e ∈ C ↔ pairG xs hs (cellsR xs).length 0 e) : ∀ e, okM e = true → (e ∈ C ↔ tellG xs hs e) := by
 intro e ho
 rw [hC]
 constructor
 ·rintro ⟨a, b, ca, cb, h1, h2, _, h4, rfl, h6⟩
  have m1 : hasB xs ca.1 ca.2 = true := mem_cells.1 (List.mem_of_getElem? h1)
  have m2 : hasB xs cb.1 cb.2 = true := mem_cells.1 (List.mem_of_getElem? h2)
  rcases (nb_cells h4).2 with ⟨e1, e2⟩ | ⟨e1, e2⟩
  ·exact ⟨by rw [← e1] at m1; exact m1, by rw [← e2] at m2; exact m2, h6⟩
  ·exact ⟨by rw [← e1] at m2; exact m2, by rw [← e2] at m1; exact m1, h6⟩
 ·rintro ⟨h1, h2, h3⟩
  obtain ⟨x, y, d⟩ := e
  simp only at h1 h2
  obtain ⟨a, ha, ea⟩ := List.getElem_of_mem (mem_cells.2 h1)
  obtain ⟨b, hb, eb⟩ := List.getElem_of_mem (mem_cells.2 h2)
  have fin : ∀ {u v : Int}, (cellsR xs)[b] = (u, v) → y * 8 + x < v * 8 + u → a < b := fun q hlt => by
   refine Classical.byContradiction fun c => ?_
   rcases Nat.lt_or_ge b a with h | h
   ·have := List.pairwise_iff_getElem.1 (cells_inc xs) b a hb ha h
    rw [ea, q] at this
    simp only at this
    omega
   ·obtain rfl : a = b := by omega
    rw [ea] at q
    injection q with q1 q2
    omega
  cases d with
  | true =>
   have o := ok_dn ho
   have w1 : sy y true = y + 1 := by unfold sy; rw [if_pos rfl]; exact wrap_in (by omega) (by omega)
   have w2 : sx x true = x := by unfold sx; rw [if_pos rfl]
   rw [w1, w2] at eb
   have hlt := fin eb (by omega)
   refine ⟨a, b, (x, y), (x, y + 1), by rw [List.getElem?_eq_getElem ha, ea], by rw [List.getElem?_eq_getElem hb, eb], .inl ⟨hb, hlt⟩, ?_, ?_, h3⟩
   ·rw [nbB_iff]; exact ⟨by unfold Ok; simp only; omega, by unfold Ok; simp only; omega, .inl ⟨rfl, .inr rfl⟩⟩
   ·have e1 : mn y (y + 1) = y := by unfold mn; rw [if_neg (by omega)]
    have e2 : mn x x = x := by unfold mn; split <;> rfl
    unfold dOf
    simp only
    rw [e1, e2]; simp
  | false =>
   have o := ok_rt ho
   have w1 : sx x false = x + 1 := by unfold sx; rw [if_neg (by simp)]; exact wrap_in (by omega) (by omega)
   have w2 : sy y false = y := by unfold sy; rw [if_neg (by simp)]
   rw [w1, w2] at eb
   have hlt := fin eb (by omega)
   refine ⟨a, b, (x, y), (x + 1, y), by rw [List.getElem?_eq_getElem ha, ea], by rw [List.getElem?_eq_getElem hb, eb], .inl ⟨hb, hlt⟩, ?_, ?_, h3⟩
   ·rw [nbB_iff]; exact ⟨by unfold Ok; simp only; omega, by unfold Ok; simp only; omega, .inr ⟨rfl, .inr rfl⟩⟩
   ·have e1 : mn x (x + 1) = x := by unfold mn; rw [if_neg (by omega)]
    have e2 : mn y y = y := by unfold mn; split <;> rfl
    unfold dOf
    simp only
    rw [e1, e2, decide_eq_false (by omega : ¬ x = x + 1)]
theorem gap_at {e : Dm} (ho : okM e = true) : gapA e < 81 ∧ gapB e < 81 ∧ ((gapA e : Nat) : Int) = sy e.2.1 e.2.2 * 9 + sx e.1 e.2.2 ∧ (0 ≤ sx e.1 e.2.2 ∧ sx e.1 e.2.2 ≤ 7 ∧ 0 ≤ sy e.2.1 e.2.2 ∧ sy e.2.1 e.2.2 ≤ 7) ∧
  (e.2.2 = true → ((gapB e : Nat) : Int) = sy e.2.1 e.2.2 * 9 + sx e.1 e.2.2 + 1) ∧ (e.2.2 = false → ((gapB e : Nat) : Int) = (sy e.2.1 e.2.2 + 1) * 9 + sx e.1 e.2.2) := by
 obtain ⟨x, y, d⟩ := e
 cases d with
 | true =>
  have o := ok_dn ho
  have w1 : sy y true = y + 1 := by unfold sy; rw [if_pos rfl]; exact wrap_in (by omega) (by omega)
  have w2 : sx x true = x := by unfold sx; rw [if_pos rfl]
  unfold gapA gapB
  simp only [if_pos, w1, w2]
  refine ⟨by omega, by omega, by omega, by omega, fun _ => by omega, fun q => by cases q⟩
 | false =>
  have o := ok_rt ho
  have w1 : sx x false = x + 1 := by unfold sx; rw [if_neg (by simp)]; exact wrap_in (by omega) (by omega)
  have w2 : sy y false = y := by unfold sy; rw [if_neg (by simp)]
  unfold gapA gapB
  simp only [Bool.false_eq_true, if_false, w1, w2]
  exact ⟨by omega, by omega, by omega, by omega, (fun q => by cases q), (fun _ => by omega)⟩
theorem gap_iff {hs : List Int} {e : Dm} {u v : Int} (hu : hs[gapA e]? = some u) (hv : hs[gapB e]? = some v) : gap hs e ↔ (wrap64 (u - v) == 3 || wrap64 (v - u) == 3) = true := by
 unfold gap
 rw [Bool.or_eq_true, beq_iff_eq, beq_iff_eq]
 constructor
 ·rintro ⟨u', v', a, b, c⟩
  rw [hu] at a
  rw [hv] at b
  injection a with a
  injection b with b
  rw [a, b]; exact c
 ·exact fun c => ⟨u, v, hu, hv, c⟩
end Go.Proofs.YtmajllgfmclcoaaGreat.Hgt

namespace Go.Proofs.YtmajllgfmclcoaaGreat.Cor
set_option linter.unusedVariables false
set_option linter.unusedSimpArgs false
set_option maxRecDepth 100000
open Go.RowKit Go.Proofs.YtmajllgfmclcoaaGreat.Cell Go.Proofs.YtmajllgfmclcoaaGreat.Dom Go.Proofs.YtmajllgfmclcoaaGreat.Hgt Go.Joins

def AtC (W : World) (q : Nat) (x y : Int) : Prop := W.heap[q]? = some (.cells #[.int .i64 x, .int .i64 y] 82)
theorem AtC.on {W W' : World} {q : Nat} {x y : Int} (h : AtC W q x y) (hb : Below W.heap.size W W') : AtC W' q x y := (hb.block q (Array.getElem?_eq_some_iff.1 h).1).trans h
theorem AtC.c0 {W : World} {q : Nat} {x y : Int} (h : AtC W q x y) : W.cell? ⟨q, 0, none⟩ = some (.int .i64 x) := (cell_of_row _ _ 0 _ _ _ h).trans rfl
theorem AtC.c1 {W : World} {q : Nat} {x y : Int} (h : AtC W q x y) : W.cell? ⟨q, 1, none⟩ = some (.int .i64 y) := (cell_of_row _ _ 1 _ _ _ h).trans rfl
theorem AtC.lt {W : World} {q : Nat} {x y : Int} (h : AtC W q x y) : q < W.heap.size := (Array.getElem?_eq_some_iff.1 h).1
theorem AtC.new (W : World) (x y : Int) : AtC (W.alloc (.cells #[.int .i64 x, .int .i64 y] 82)) W.heap.size x y := heap_alloc_new W _
theorem AtC.drew {W : World} {q : Nat} {x y : Int} (h : AtC W q x y) : AtC W.drew q x y := h
theorem AtC.far {W : World} {p q i : Nat} {x y : Int} {v : Value} (h : AtC W q x y) (hp : q ≠ p) : AtC (W.setCell ⟨p, i, none⟩ v) q x y := (Below.heap_setCell W ⟨p, i, none⟩ v q hp).trans h
theorem AtC.far2 {W : World} {p q : Nat} {x y : Int} {u v : Value} (h : AtC W q x y) (hp : q ≠ p) : AtC ((W.setCell ⟨p, 0, none⟩ u).setCell ⟨p, 1, none⟩ v) q x y := (h.far hp).far hp

set_option maxHeartbeats 400000 in
theorem iInRange (x y : Int) (w : World) :
  Calls Tryz.prog 85 #[.agg #[.int .i64 x, .int .i64 y]] w (Bol (inC (x, y)) w) := by
 have H : ∀ (b : Bool) (W : World), (b = true ↔ 0 ≤ x ∧ x < 9 ∧ 0 ≤ y ∧ y < 9) → Below w.heap.size w W → Bol (inC (x, y)) w (.returned (.bool b)) W := fun b W h hb => mkBol (by rw [Bool.eq_iff_iff, inC_iff]; exact h) hb
 have HH := Lib.hid H
 clear H
 go_enter Tryz.func85, Tryz.ntmps85
 go_wp2
 all_goals
  go_ret
  refine HH.out _ _ ?_ (below_alloc1 _ _)
  simp
  try omega
set_option maxHeartbeats 400000 in
theorem iIndex (x y : Int) (h : 0 ≤ x ∧ x ≤ 8 ∧ 0 ≤ y ∧ y ≤ 8) (w : World) :
  Calls Tryz.prog 65 #[.agg #[.int .i64 x, .int .i64 y]] w (Num (y * 9 + x) w) := by
 have H : ∀ (z : Int) (W : World), z = y * 9 + x → Below w.heap.size w W → Num (y * 9 + x) w (.returned (.int .i64 z)) W := fun z W e hb => ⟨by rw [e], hb⟩
 have HH := Lib.hid H
 have HV := Lib.hid h
 clear H h
 go_enter Tryz.func65, Tryz.ntmps65
 go_wp2
 go_ret
 refine HH.out _ _ ?_ (below_alloc1 _ _)
 have hv := HV.out
 first
 | rfl
 | (simp only [IntKind.wrap_i64]; unfold wrap64; omega)
 | (simp only [IntKind.wrap_i64]; omega)
 | (unfold wrap64; omega)
def CelP (x y : Int) (w : World) (e : Ending) (w' : World) : Prop := e = .returned (.agg #[.int .i64 x, .int .i64 y]) ∧ Below w.heap.size w w'
theorem at3_cor (w : World) (a b c d X Y : Int) (W : World) (e : W = ((w.alloc (.cells #[.int .i64 a, .int .i64 b] 82)).alloc (.cells #[.int .i64 c, .int .i64 d] 82)).alloc (.cells #[.int .i64 X, .int .i64 Y] 60)) :
  At2 W (w.heap.size + 1 + 1) X Y ∧ Below w.heap.size w W := by
 subst e
 refine ⟨?_, below_alloc3 w _ _ _⟩
 have k := At2.new ((w.alloc (.cells #[.int .i64 a, .int .i64 b] 82)).alloc (.cells #[.int .i64 c, .int .i64 d] 82)) X Y
 simpa using k
set_option maxHeartbeats 1000000 in
theorem iLeft (px py qx qy : Int) (hp : 0 ≤ px ∧ px ≤ 8 ∧ 0 ≤ py ∧ py ≤ 8) (hq : 0 ≤ qx ∧ qx ≤ 8 ∧ 0 ≤ qy ∧ qy ≤ 8) (w : World) :
  Calls Tryz.prog 86 #[.agg #[.int .i64 px, .int .i64 py], .agg #[.int .i64 qx, .int .i64 qy]] w (CelP (clX px py qx qy) (clY px py qx qy) w) := by
 have e1 : wrap64 (py - 1) = py - 1 := by unfold wrap64; omega
 have e2 : wrap64 (qx - 1) = qx - 1 := by unfold wrap64; omega
 have HX := Lib.hid (show clX px py qx qy = if px < qx then px else if qx < px then qx else if py < qy then px else qx - 1 from rfl)
 have HY := Lib.hid (show clY px py qx qy = if px < qx then py - 1 else if qx < px then qy else if py < qy then py else qy from rfl)
 generalize clX px py qx qy = m at HX ⊢
 generalize clY px py qx qy = n at HY ⊢
 clear hp hq
 by_cases h1 : px < qx
 ·obtain ⟨rfl, rfl⟩ : m = px ∧ n = py - 1 := by rw [HX.out, HY.out, if_pos h1, if_pos h1]; exact ⟨rfl, rfl⟩
  have K := Lib.hid (at3_cor w m py qx qy m (py - 1) _ rfl)
  clear HX HY
  go_enter Tryz.func86, Tryz.ntmps86
  go_wp2
  have r0 := K.out.1.c0
  have r1 := K.out.1.c1
  refine bodyPost_ret (v := .agg #[.int .i64 m, .int .i64 (py - 1)]) ?_ rfl ⟨rfl, K.out.2⟩
  simp [results, Tryz.results86, go_sem, r0, r1]
 by_cases h2 : qx < px
 ·obtain ⟨rfl, rfl⟩ : m = qx ∧ n = qy := by rw [HX.out, HY.out, if_neg h1, if_neg h1, if_pos h2, if_pos h2]; exact ⟨rfl, rfl⟩
  have K := Lib.hid (at3_cor w px py m n m n _ rfl)
  clear HX HY
  go_enter Tryz.func86, Tryz.ntmps86
  go_wp2
  have r0 := K.out.1.c0
  have r1 := K.out.1.c1
  refine bodyPost_ret (v := .agg #[.int .i64 m, .int .i64 n]) ?_ rfl ⟨rfl, K.out.2⟩
  simp [results, Tryz.results86, go_sem, r0, r1]
 by_cases h3 : py < qy
 ·obtain ⟨rfl, rfl⟩ : m = px ∧ n = py := by rw [HX.out, HY.out, if_neg h1, if_neg h1, if_neg h2, if_neg h2, if_pos h3, if_pos h3]; exact ⟨rfl, rfl⟩
  have K := Lib.hid (at3_cor w m n qx qy m n _ rfl)
  clear HX HY
  go_enter Tryz.func86, Tryz.ntmps86
  go_wp2
  have r0 := K.out.1.c0
  have r1 := K.out.1.c1
  refine bodyPost_ret (v := .agg #[.int .i64 m, .int .i64 n]) ?_ rfl ⟨rfl, K.out.2⟩
  simp [results, Tryz.results86, go_sem, r0, r1]
 ·obtain ⟨rfl, rfl⟩ : m = qx - 1 ∧ n = qy := by rw [HX.out, HY.out, if_neg h1, if_neg h1, if_neg h2, if_neg h2, if_neg h3, if_neg h3]; exact ⟨rfl, rfl⟩
  have K := Lib.hid (at3_cor w px py qx n (qx - 1) n _ rfl)
  clear HX HY
  go_enter Tryz.func86, Tryz.ntmps86
  go_wp2
  have r0 := K.out.1.c0
  have r1 := K.out.1.c1
  refine bodyPost_ret (v := .agg #[.int .i64 (qx - 1), .int .i64 n]) ?_ rfl ⟨rfl, K.out.2⟩
  simp [results, Tryz.results86, go_sem, r0, r1]
structure Fb (w : World) (a b c d m n u v : Int) (W : World) : Prop where
 bel : Below w.heap.size w W
 k1 : AtC W w.heap.size a b
 k2 : AtC W (w.heap.size + 1) c d
 k3 : At2 W (w.heap.size + 1 + 1) m n
 k4 : At2 W (w.heap.size + 1 + 1 + 1) u v
theorem fb_start (a b c d : Int) (w : World) : Fb w a b c d 0 0 0 0 ((((w.alloc (.cells #[.int .i64 a, .int .i64 b] 82)).alloc (.cells #[.int .i64 c, .int .i64 d] 82)).alloc (.cells #[.int .i64 0, .int .i64 0] 60)).alloc (.cells #[.int .i64 0, .int .i64 0] 60)) := by
 have h0 := AtC.new w a b
 have b0 := below_alloc1 w (.cells #[.int .i64 a, .int .i64 b] 82)
 have e0 : (w.alloc (.cells #[.int .i64 a, .int .i64 b] 82)).heap.size = w.heap.size + 1 := by simp
 generalize w.alloc (.cells #[.int .i64 a, .int .i64 b] 82) = W0 at h0 b0 e0 ⊢
 have h1 := AtC.new W0 c d
 have b1 := below_alloc1 W0 (.cells #[.int .i64 c, .int .i64 d] 82)
 have e1 : (W0.alloc (.cells #[.int .i64 c, .int .i64 d] 82)).heap.size = w.heap.size + 1 + 1 := by simp [e0]
 generalize W0.alloc (.cells #[.int .i64 c, .int .i64 d] 82) = W1 at h1 b1 e1 ⊢
 have h2 := At2.new W1 0 0
 have b2 := below_alloc1 W1 (.cells #[.int .i64 0, .int .i64 0] 60)
 have e2 : (W1.alloc (.cells #[.int .i64 0, .int .i64 0] 60)).heap.size = w.heap.size + 1 + 1 + 1 := by simp [e1]
 generalize W1.alloc (.cells #[.int .i64 0, .int .i64 0] 60) = W2 at h2 b2 e2 ⊢
 have h3 := At2.new W2 0 0
 have b3 := below_alloc1 W2 (.cells #[.int .i64 0, .int .i64 0] 60)
 generalize W2.alloc (.cells #[.int .i64 0, .int .i64 0] 60) = W3 at h3 b3 ⊢
 rw [e0] at h1
 rw [e1] at h2
 rw [e2] at h3
 exact ⟨((b0.trans (b1.mono (by omega))).trans (b2.mono (by omega))).trans (b3.mono (by omega)), ((h0.on b1).on b2).on b3, (h1.on b2).on b3, h2.on b3, h3⟩
section
variable {w W W' : World} {a b c d m n u v : Int}
theorem Fb.drew (h : Fb w a b c d m n u v W) : Fb w a b c d m n u v W.drew := ⟨h.bel.drew, h.k1, h.k2, h.k3, h.k4⟩
theorem Fb.on (h : Fb w a b c d m n u v W) (hb : Below W.heap.size W W') : Fb w a b c d m n u v W' := ⟨h.bel.trans (hb.mono h.bel.size), h.k1.on hb, h.k2.on hb, h.k3.on hb, h.k4.on hb⟩
theorem Fb.put1 (h : Fb w a b c d m n u v W) (x y : Int) : Fb w a b c d x y u v ((W.setCell ⟨w.heap.size + 1 + 1, 0, none⟩ (.int .i64 x)).setCell ⟨w.heap.size + 1 + 1, 1, none⟩ (.int .i64 y)) :=
 ⟨(h.bel.setCell (p := ⟨w.heap.size + 1 + 1, 0, none⟩) (by show w.heap.size ≤ w.heap.size + 1 + 1; omega) _).setCell (p := ⟨w.heap.size + 1 + 1, 1, none⟩) (by show w.heap.size ≤ w.heap.size + 1 + 1; omega) _, h.k1.far2 (by omega), h.k2.far2 (by omega), h.k3.put, h.k4.far2 (by omega)⟩
theorem Fb.put2 (h : Fb w a b c d m n u v W) (x y : Int) : Fb w a b c d m n x y ((W.setCell ⟨w.heap.size + 1 + 1 + 1, 0, none⟩ (.int .i64 x)).setCell ⟨w.heap.size + 1 + 1 + 1, 1, none⟩ (.int .i64 y)) :=
 ⟨(h.bel.setCell (p := ⟨w.heap.size + 1 + 1 + 1, 0, none⟩) (by show w.heap.size ≤ w.heap.size + 1 + 1 + 1; omega) _).setCell (p := ⟨w.heap.size + 1 + 1 + 1, 1, none⟩) (by show w.heap.size ≤ w.heap.size + 1 + 1 + 1; omega) _, h.k1.far2 (by omega), h.k2.far2 (by omega), h.k3.far2 (by omega), h.k4.put⟩
end
set_option maxHeartbeats 2000000 in
theorem iBeside (px py qx qy : Int) (hp : 0 ≤ px ∧ px ≤ 8 ∧ 0 ≤ py ∧ py ≤ 8) (hq : 0 ≤ qx ∧ qx ≤ 8 ∧ 0 ≤ qy ∧ qy ≤ 8) (w : World) :
  Calls Tryz.prog 68 #[.agg #[.int .i64 px, .int .i64 py], .agg #[.int .i64 qx, .int .i64 qy]] w (Cel2 (clX px py qx qy) (clY px py qx qy) (clX qx qy px py) (clY qx qy px py) w) := by
 have HL := Lib.hid (fun W => iLeft px py qx qy hp hq W)
 have HR := Lib.hid (fun W => iLeft qx qy px py hq hp W)
 generalize clX px py qx qy = m at HL ⊢
 generalize clY px py qx qy = n at HL ⊢
 generalize clX qx qy px py = u at HR ⊢
 generalize clY qx qy px py = v at HR ⊢
 have T0 := Lib.hid (fb_start px py qx qy w)
 clear hp hq
 go_enter Tryz.func68, Tryz.ntmps68
 go_upto_region 1 with fail
 have T1 := T0.out.drew
 clear T0
 refine wp_region_noPanic ?_
 refine wp_region_held_drew (S := (fun w' => w'.cell? ⟨w.heap.size, 0, none⟩ = some (.int .i64 px) ∧ w'.cell? ⟨w.heap.size, 1, none⟩ = some (.int .i64 py) ∧ w'.cell? ⟨w.heap.size + 1, 0, none⟩ = some (.int .i64 qx) ∧ w'.cell? ⟨w.heap.size + 1, 1, none⟩ = some (.int .i64 qy))) (by kernel_rfl) (⟨T1.k1.c0, T1.k1.c1, T1.k2.c0, T1.k2.c1⟩) (fun hHeld => ?_)
 generalize World.drew _ = WR at T1 hHeld ⊢
 refine wpAnyH_take (i := 0) (v := ?_) rfl (by kernel_rfl) (by kernel_rfl) (by kernel_rfl) (fun _ _ _ h => h) (Or.inl ⟨by rfl, ?_⟩) (by assumption) ?_
 rotate_left
 ·(intro w' hS; (try dsimp only at hS); go_simp; try with_reducible rfl)
 try simp only [Act.put, List.getElem_toArray, List.getElem_cons_succ, List.getElem_cons_zero, List.setIfInBounds_toArray, List.set_cons_zero, List.set_cons_succ]
 refine wpAnyH_take (i := 1) (v := ?_) rfl (by kernel_rfl) (by kernel_rfl) (by kernel_rfl) (fun _ _ _ h => h) (Or.inl ⟨by rfl, ?_⟩) (by assumption) ?_
 rotate_left
 ·(intro w' hS; (try dsimp only at hS); go_simp; try with_reducible rfl)
 try simp only [Act.put, List.getElem_toArray, List.getElem_cons_succ, List.getElem_cons_zero, List.setIfInBounds_toArray, List.set_cons_zero, List.set_cons_succ]
 refine wpAnyH_take (i := 3) (v := ?_) rfl (by kernel_rfl) (by kernel_rfl) (by kernel_rfl) (fun _ _ _ h => h) (Or.inl ⟨by rfl, ?_⟩) (by assumption) ?_
 rotate_left
 ·(intro w' hS; (try dsimp only at hS); go_simp; try with_reducible rfl)
 try simp only [Act.put, List.getElem_toArray, List.getElem_cons_succ, List.getElem_cons_zero, List.setIfInBounds_toArray, List.set_cons_zero, List.set_cons_succ]
 refine wpAnyH_take (i := 4) (v := ?_) rfl (by kernel_rfl) (by kernel_rfl) (by kernel_rfl) (fun _ _ _ h => h) (Or.inl ⟨by rfl, ?_⟩) (by assumption) ?_
 rotate_left
 ·(intro w' hS; (try dsimp only at hS); go_simp; try with_reducible rfl)
 try simp only [Act.put, List.getElem_toArray, List.getElem_cons_succ, List.getElem_cons_zero, List.setIfInBounds_toArray, List.set_cons_zero, List.set_cons_succ]
 refine wpAnyH_ready (rs := [2]) (by kernel_rfl) (by simp) ?_
 refine AllReadyH.cons rfl (fun K hK => ?_) AllReadyH.nil
 go_simp
 refine (HL.out _).mono ?_
 rintro e wx ⟨rfl, hbx⟩
 have T1 := T1.on hbx
 clear hbx
 go_wp2_with fail
 refine hK.out _ _ (⟨T1.k1.c0, T1.k1.c1, T1.k2.c0, T1.k2.c1⟩) (fun hHeld => ?_)
 clear hK K
 try simp only [Act.put, List.getElem_toArray, List.getElem_cons_succ, List.getElem_cons_zero, List.setIfInBounds_toArray, List.set_cons_zero, List.set_cons_succ]
 refine wpAnyH_ready (rs := [5]) (by kernel_rfl) (by simp) ?_
 refine AllReadyH.cons rfl (fun K hK => ?_) AllReadyH.nil
 go_simp
 refine (HR.out _).mono ?_
 rintro e wx ⟨rfl, hbx⟩
 have T1 := T1.on hbx
 clear hbx
 go_wp2_with fail
 refine hK.out _ _ (⟨T1.k1.c0, T1.k1.c1, T1.k2.c0, T1.k2.c1⟩) (fun hHeld => ?_)
 clear hK K
 try simp only [Act.put, List.getElem_toArray, List.getElem_cons_succ, List.getElem_cons_zero, List.setIfInBounds_toArray, List.set_cons_zero, List.set_cons_succ]
 refine wpAnyH_ready (rs := [6]) (by kernel_rfl) (by simp) ?_
 refine AllReadyH.cons rfl (fun K hK => ?_) AllReadyH.nil
 have c2 := T1.k3.f0
 have c3 := T1.k3.f1
 have c4 := T1.k3.c0
 have c5 := T1.k3.c1
 have T1 := T1.put1 m n
 go_simp
 refine hK.out _ _ (⟨T1.k1.c0, T1.k1.c1, T1.k2.c0, T1.k2.c1⟩) (fun hHeld => ?_)
 clear hK K
 try simp only [Act.put, List.getElem_toArray, List.getElem_cons_succ, List.getElem_cons_zero, List.setIfInBounds_toArray, List.set_cons_zero, List.set_cons_succ]
 refine wpAnyH_ready (rs := [7]) (by kernel_rfl) (by simp) ?_
 refine AllReadyH.cons rfl (fun K hK => ?_) AllReadyH.nil
 clear c2 c3 c4 c5
 have c2 := T1.k4.f0
 have c3 := T1.k4.f1
 have c4 := T1.k4.c0
 have c5 := T1.k4.c1
 have T1 := T1.put2 u v
 go_simp
 refine hK.out _ _ (⟨T1.k1.c0, T1.k1.c1, T1.k2.c0, T1.k2.c1⟩) (fun hHeld => ?_)
 clear hK K
 try simp only [Act.put, List.getElem_toArray, List.getElem_cons_succ, List.getElem_cons_zero, List.setIfInBounds_toArray, List.set_cons_zero, List.set_cons_succ]
 refine wpAnyH_done (by kernel_rfl) ?_ _
 refine NoPanic.normal ?_
 clear hHeld c2 c3 c4 c5
 go_wp2
 have r0 := T1.k3.c0
 have r1 := T1.k3.c1
 have r2 := T1.k4.c0
 have r3 := T1.k4.c1
 refine bodyPost_ret (v := .tuple #[.agg #[.int .i64 m, .int .i64 n], .agg #[.int .i64 u, .int .i64 v]]) ?_ rfl (mkCel2 rfl rfl rfl rfl T1.bel)
 simp [results, Tryz.results68, go_sem, r0, r1, r2, r3]
end Go.Proofs.YtmajllgfmclcoaaGreat.Cor

namespace Go.Proofs.YtmajllgfmclcoaaGreat.Cor
set_option linter.unusedVariables false
set_option linter.unusedSimpArgs false
set_option maxRecDepth 100000
open Go.RowKit Go.Proofs.YtmajllgfmclcoaaGreat.Base Go.Proofs.YtmajllgfmclcoaaGreat.Hgt Go.Joins
open Go.Proofs.YtmajllgfmclcoaaGreat.Cels (rowC rowC_snoc rowC_length rowC_at)
open Go.Proofs.YtmajllgfmclcoaaGreat.Reg (own_below own_base)

def EndP (L : List (Int × Int)) (w : World) (e : Ending) (w' : World) : Prop :=
  ∃ (A : Option Addr) (cap : Nat), e = .returned (.slice A L.length cap) ∧ w'.ownsRow w.heap.size 82 2 (.slice A L.length cap) L.length (rowC L) ∧ Below w.heap.size w w'
theorem corInfo : (Tryz.prog.info? 82).map (fun i => (i.zero, i.size, i.bytes)) = some (some (.agg #[.int .i64 0, .int .i64 0]), 2, 16) := by kernel_rfl
def endsT (x y : Int) (k : Nat) : List (Int × Int) := ((ends4 x y).take k).filter inC
theorem endsT_yes {x y u v : Int} {k : Nat} (h : (ends4 x y)[k]? = some (u, v)) (ho : inC (u, v) = true) : endsT x y (k + 1) = endsT x y k ++ [(u, v)] := by
  unfold endsT; rw [List.take_add_one, h, List.filter_append]; simp [ho]
theorem endsT_no {x y u v : Int} {k : Nat} (h : (ends4 x y)[k]? = some (u, v)) (ho : inC (u, v) = false) : endsT x y (k + 1) = endsT x y k := by
  unfold endsT; rw [List.take_add_one, h, List.filter_append]; simp [ho]
theorem endsT_le (x y : Int) (k : Nat) : (endsT x y k).length ≤ 4 := by
  unfold endsT
  exact Nat.le_trans (List.length_filter_le _ _) (by rw [List.length_take]; exact Nat.min_le_right _ _)
def arr4 (x y : Int) : Array Value := #[.int .i64 x, .int .i64 (y - 1), .int .i64 (x - 1), .int .i64 y, .int .i64 (x + 1), .int .i64 y, .int .i64 x, .int .i64 (y + 1)]
theorem arr_cells {W : World} {g : Nat} {x y : Int} (h : W.heap[g]? = some (.cells (arr4 x y) 97 (0, 0))) :
    W.cell? ⟨g, 0, none⟩ = some (.int .i64 x) ∧ W.cell? ⟨g, 1, none⟩ = some (.int .i64 (y - 1)) ∧ W.cell? ⟨g, 2, none⟩ = some (.int .i64 (x - 1)) ∧ W.cell? ⟨g, 3, none⟩ = some (.int .i64 y) ∧
    W.cell? ⟨g, 4, none⟩ = some (.int .i64 (x + 1)) ∧ W.cell? ⟨g, 5, none⟩ = some (.int .i64 y) ∧ W.cell? ⟨g, 6, none⟩ = some (.int .i64 x) ∧ W.cell? ⟨g, 7, none⟩ = some (.int .i64 (y + 1)) :=
  ⟨(cell_of_row _ _ 0 _ _ _ h).trans rfl, (cell_of_row _ _ 1 _ _ _ h).trans rfl, (cell_of_row _ _ 2 _ _ _ h).trans rfl, (cell_of_row _ _ 3 _ _ _ h).trans rfl,
   (cell_of_row _ _ 4 _ _ _ h).trans rfl, (cell_of_row _ _ 5 _ _ _ h).trans rfl, (cell_of_row _ _ 6 _ _ _ h).trans rfl, (cell_of_row _ _ 7 _ _ _ h).trans rfl⟩
theorem arr_at (x y : Int) {k : Nat} {u v : Int} (h : (ends4 x y)[k]? = some (u, v)) (w : World) : (Instr.index 97 (.agg #[.int .i64 x, .int .i64 (y - 1), .int .i64 (x - 1), .int .i64 y, .int .i64 (x + 1), .int .i64 y, .int .i64 x, .int .i64 (y + 1)]) (.int .i64 (k : Int))).run Tryz.prog w = .ok (.agg #[.int .i64 u, .int .i64 v]) w := by
  have a0 : ∀ a b c d e f g h : Int, (Instr.index 97 (.agg #[.int .i64 a, .int .i64 b, .int .i64 c, .int .i64 d, .int .i64 e, .int .i64 f, .int .i64 g, .int .i64 h]) (.int .i64 ((0 : Nat) : Int))).run Tryz.prog w = .ok (.agg #[.int .i64 a, .int .i64 b]) w := fun a b c d e f g h => by kernel_rfl
  have a1 : ∀ a b c d e f g h : Int, (Instr.index 97 (.agg #[.int .i64 a, .int .i64 b, .int .i64 c, .int .i64 d, .int .i64 e, .int .i64 f, .int .i64 g, .int .i64 h]) (.int .i64 ((1 : Nat) : Int))).run Tryz.prog w = .ok (.agg #[.int .i64 c, .int .i64 d]) w := fun a b c d e f g h => by kernel_rfl
  have a2 : ∀ a b c d e f g h : Int, (Instr.index 97 (.agg #[.int .i64 a, .int .i64 b, .int .i64 c, .int .i64 d, .int .i64 e, .int .i64 f, .int .i64 g, .int .i64 h]) (.int .i64 ((2 : Nat) : Int))).run Tryz.prog w = .ok (.agg #[.int .i64 e, .int .i64 f]) w := fun a b c d e f g h => by kernel_rfl
  have a3 : ∀ a b c d e f g h : Int, (Instr.index 97 (.agg #[.int .i64 a, .int .i64 b, .int .i64 c, .int .i64 d, .int .i64 e, .int .i64 f, .int .i64 g, .int .i64 h]) (.int .i64 ((3 : Nat) : Int))).run Tryz.prog w = .ok (.agg #[.int .i64 g, .int .i64 h]) w := fun a b c d e f g h => by kernel_rfl
  unfold ends4 at h
  rcases k with _ | _ | _ | _ | k
  · simp at h; obtain ⟨rfl, rfl⟩ := h; exact a0 _ _ _ _ _ _ _ _
  · simp at h; obtain ⟨rfl, rfl⟩ := h; exact a1 _ _ _ _ _ _ _ _
  · simp at h; obtain ⟨rfl, rfl⟩ := h; exact a2 _ _ _ _ _ _ _ _
  · simp at h; obtain ⟨rfl, rfl⟩ := h; exact a3 _ _ _ _ _ _ _ _
  · simp at h
theorem ends_at (x y : Int) {k : Nat} (h : k < 4) : ∃ u v, (ends4 x y)[k]? = some (u, v) := by
  have : k < (ends4 x y).length := h
  exact ⟨_, _, List.getElem?_eq_getElem this⟩
theorem arr_start (w : World) (x y : Int) (W : World) (e : W = (w.alloc (.cells #[.int .i64 x, .int .i64 y] 82)).alloc (.cells (arr4 x y) 97)) :
    Below w.heap.size w W ∧ W.heap[w.heap.size + 1]? = some (.cells (arr4 x y) 97 (0, 0)) := by
  subst e
  refine ⟨below_alloc2 w _ _, ?_⟩
  have k := heap_alloc_new (w.alloc (.cells #[.int .i64 x, .int .i64 y] 82)) (.cells (arr4 x y) 97)
  simpa using k
set_option maxHeartbeats 4000000 in
theorem iEnds (x y : Int) (h : 0 ≤ x ∧ x ≤ 8 ∧ 0 ≤ y ∧ y ≤ 8) (w : World) : Calls Tryz.prog 67 #[.agg #[.int .i64 x, .int .i64 y]] w (EndP (endsP x y) w) := by
  obtain ⟨i0, hi, hz0, hz1, hz2⟩ := info_parts corInfo
  have e1 : wrap64 (y - 1) = y - 1 := by unfold wrap64; omega
  have e2 : wrap64 (x - 1) = x - 1 := by unfold wrap64; omega
  have e3 : wrap64 (x + 1) = x + 1 := by unfold wrap64; omega
  have e4 : wrap64 (y + 1) = y + 1 := by unfold wrap64; omega
  clear h
  have HS := Lib.hid (arr_start w x y _ rfl)
  unfold arr4 at HS
  go_enter Tryz.func67, Tryz.ntmps67
  go_upto_region 2 with fail
  obtain ⟨hb1, hA⟩ := HS.out
  clear HS
  generalize (w.alloc _).alloc _ = W1 at hb1 hA ⊢
  have HA := Lib.hid (show W1.heap[w.heap.size + 1]? = some (.cells (arr4 x y) 97 (0, 0)) from hA)
  have hgs := (Array.getElem?_eq_some_iff.1 hA).1
  have hW1 : w.heap.size ≤ W1.heap.size := hb1.size
  clear hA e1 e2 e3 e4
  go_wp2_with (first
    | (at_make; refine wpList_make_own _ rfl _ _ 85 rfl w.heap.size 82 i0 (.agg #[.int .i64 0, .int .i64 0]) 2 Tryz.underlying85 hi hz0 hz1 .i64 .i64 4 4 rfl rfl (by omega) (by rw [hz2]; omega) (by unfold maxLen; omega) (by omega) ?_; intro w3 hown3 hg3; obtain ⟨q0, q1, q2, q3, q4, q5, q6, q7⟩ := arr_cells ((hg3.block (w.heap.size + 1) hgs (by simp)).trans HA.out)))
  have hb3 : Below w.heap.size w w3 := hb1.grown hg3 (by omega) (by simp)
  have HO := Lib.hid hown3
  clear q0 q1 q2 q3 q4 q5 q6 q7 hown3 hg3 HA hb1 hW1 hgs
  go_loopw [4, 34] (fun v i wr => ∃ k : Nat, k ≤ 4 ∧ i = .int .i64 k ∧ wr.ownsRow w.heap.size 82 2 v (endsT x y k).length (rowC (endsT x y k)) ∧ Below w.heap.size w wr) (fun _ i _ => 4 - (intOf i).toNat)
  case atStart => exact ⟨0, Nat.zero_le _, rfl, HO.out, hb3⟩
  case round =>
    clear HO hb3
    obtain ⟨k, hk, rfl, hown, hb⟩ := hrel
    have hbs := hb.size
    by_cases hlt : k < 4
    · obtain ⟨u, v', hq⟩ := ends_at x y hlt
      have hix := arr_at x y hq
      have HQ := Lib.hid hq
      have hkI : (k : Int) < 4 := by omega
      clear hq
      go_wp2_with fail
      refine (iInRange u v' _).mono ?_
      rintro e w2 ⟨rfl, hb2⟩
      clear hix
      have hbx := below_alloc1 wr (.cells #[.int .i64 u, .int .i64 v'] 82)
      have hE : Below wr.heap.size wr w2 := hbx.trans (hb2.mono (by simp))
      have hN := (AtC.new wr u v').on hb2
      have c0 := hN.c0
      have c1 := hN.c1
      have HD := Lib.hid (hb.trans (hE.mono hbs))
      have HOwn2 := Lib.hid (own_below hown hE (Nat.le_refl _))
      have hzz : wr.heap.size < w2.heap.size := hN.lt
      clear hE hb2 hown hb hbx hN
      cases hn : inC (u, v') with
      | false =>
        have HN := Lib.hid (endsT_no HQ.out hn)
        clear hn
        go_wp2
        go_roundw
        case rel => exact ⟨k + 1, by omega, by go_num, by rw [HN.out]; exact HOwn2.out, HD.out⟩
        case measure => (simp [intOf] <;> omega)
      | true =>
        have HN := Lib.hid (endsT_yes HQ.out hn)
        have HL := Lib.hid (endsT_le x y k)
        clear hn
        go_wp2_with (first
          | (at_builtin; refine wpList_append_own _ rfl _ _ 85 rfl w.heap.size 82 i0 (.agg #[.int .i64 0, .int .i64 0]) 2 16 Tryz.underlying85 hi hz0 hz1 hz2 rfl (by decide) _ (endsT x y k).length (rowC (endsT x y k)) rfl (HOwn2.out.alloc _) ⟨w2.heap.size, 0, none⟩ 1 1 [.int .i64 u, .int .i64 v'] rfl rfl (World.news_of_block (cs := #[.int .i64 u, .int .i64 v']) (t := 82) (fr := (0, 0)) (heap_alloc_new w2 _)) (by simp [Value.oneCell']) (by have := HL.out; unfold maxLen; omega) (by have := HL.out; omega) (by simp; omega) ?_; intro v2 w3 hown3 hgrow _))
        have hb3 : Below w.heap.size w w3 := (HD.out.alloc (by omega) _).grown hgrow (by simp; omega) (fun g hg => (HOwn2.out.lt g hg).1)
        have R := Lib.hid (show w3.ownsRow w.heap.size 82 2 v2 (endsT x y (k + 1)).length (rowC (endsT x y (k + 1))) by
          rw [HN.out, rowC_snoc, List.length_append]; exact hown3)
        clear hown3 hgrow
        go_wp2
        go_roundw
        case rel => exact ⟨k + 1, by omega, by go_num, R.out, hb3⟩
        case measure => (simp [intOf] <;> omega)
    · obtain rfl : k = 4 := by omega
      obtain ⟨A, cap, rfl⟩ := own_shape hown
      have HOwn := Lib.hid hown
      clear hown
      rw [show ((4 : Nat) : Int) = 4 from rfl]
      go_wp2
      go_ret
      exact ⟨A, cap, rfl, HOwn.out, hb⟩
end Go.Proofs.YtmajllgfmclcoaaGreat.Cor
