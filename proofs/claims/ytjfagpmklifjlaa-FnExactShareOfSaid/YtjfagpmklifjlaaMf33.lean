/- LFrS, LFrO in one text. -/
import Derived.Test.YtjfagpmklifjlaaMf08
import Derived.Test.YtjfagpmklifjlaaMf29
import Derived.Test.YtjfagpmklifjlaaMf31
import Derived.Test.YtjfagpmklifjlaaMf32
import Derived.Test.YtjfagpmklifjlaaMf28

namespace Go.Proofs.Ytjfagpmklifjlaa.Frd
set_option linter.unusedVariables false
set_option linter.unusedSimpArgs false
set_option maxRecDepth 100000
open Go.RowKit Go.Proofs.Ytjfagpmklifjlaa.Dom Go.Proofs.Ytjfagpmklifjlaa.Fr Go.Joins
open Go.Proofs.Ytjfagpmklifjlaa.Cnt (tilesR)
open Go.Proofs.Ytjfagpmklifjlaa.Reg hiding add_none RC rc_start Yes
open Go.Proofs.Ytjfagpmklifjlaa.Prof (toDom RDm rdm_start RE2 re2_start)

set_option maxHeartbeats 4000000 in
theorem lawShareOf (w : World) (A : Option Addr) (n cap : Nat) (xs : List Int) (hx : xs.length = n) (hn : (n : Int) ≤ 9223372036854775807) (h : RowB w w.heap.size A xs) (x y : Int) (b : Bool) (hwx : (Lit.int .i64 x).wf = true) (hwy : (Lit.int .i64 y).wf = true) :
  Calls Try.prog 7 #[.agg #[.slice A n cap], .agg #[.int .i64 x, .int .i64 y, .bool b]] w (Dom.Yes w) := by
 have T0 := Lib.hid (fun T T' => rdm_start w (.slice A n cap) x y b T T')
 have HZ := Lib.hid (fun W => szRegion A n cap 1048576 (by omega) (by omega) hn W)
 by_cases hs : (n : Int) ≤ 1048576
 ·have HTo := Lib.hid (fun W (hb : Below w.heap.size w W) => toRegion W A n cap w.heap.size xs hx hs (h.below hb (Nat.le_refl _)) hb.size)
  have HEq := Lib.hid (fun W A A' c c' (h1 : RowB W W.heap.size A xs) (h2 : RowB W W.heap.size A' xs) => eqRegion W A A' n c c' _ _ xs hx hn h1 h2 (Nat.le_refl _) (Nat.le_refl _))
  have HS := Lib.hid (fun W A c base (h1 : W.ownsRow base 3 1 (.slice A n c) n (ints xs)) => sShareOf W A n c W.heap.size xs hx hs (rowB_own h1) (Nat.le_refl _) (own_none h1) x y b)
  have HI := Lib.hid (fun W A c base (h1 : W.ownsRow base 3 1 (.slice A n c) n (ints xs)) => iShareOf W A n c W.heap.size xs hx hs (rowB_own h1) (Nat.le_refl _) (own_none h1) x y b (bounds_i64 hwx) (bounds_i64 hwy))
  have hz := szR_yes hs
  generalize szR 1048576 n = z at HZ hz
  obtain ⟨z0, z1⟩ := hz
  have z2 : ¬ z < 0 := by omega
  generalize shareR xs (x, y, b) = t at HS HI
  obtain ⟨t1, t2⟩ := t
  unfold TwoP at HS HI
  simp only at HS HI
  have hq1 : (t1 != t1) = false := by simp
  have hq2 : (t2 != t2) = false := by simp
  clear hs hx hn h hwx hwy
  go_enter Try.func7, Try.ntmps7
  go_wp2_with fail
  have T1 := T0.out 47 55
  clear T0
  refine (HZ.out _).mono ?_
  rintro e w1 ⟨rfl, hb1⟩
  have T2 := T1.on hb1
  clear T1 hb1 HZ
  obtain ⟨_, _, c0, c1, c2, c3⟩ := id T2
  go_wp2_with fail
  clear c0 c1 c2 c3
  refine wp_region_noPanic ?_
  have T2 := T2.on (drewN_below (Below.refl _ w1) 1)
  refine wp_region_held_drew (S := (fun w' => w'.cell? ⟨w.heap.size, 0, none⟩ = some (.slice A n cap) ∧ w'.cell? ⟨w.heap.size + 1, 0, none⟩ = some (.int .i64 x) ∧ w'.cell? ⟨w.heap.size + 1, 1, none⟩ = some (.int .i64 y) ∧ w'.cell? ⟨w.heap.size + 1, 2, none⟩ = some (.bool b))) (by kernel_rfl) (T2.2.2) (fun hHeld => ?_)
  change RDm w (.slice A n cap) x y b w1.drew at T2
  generalize w1.drew = WR at T2 hHeld ⊢
  refine wpAnyH_take (i := 0) (v := ?_) rfl (by kernel_rfl) (by kernel_rfl) (by kernel_rfl) (fun _ _ _ h => h) (Or.inl ⟨by rfl, ?_⟩) (by assumption) ?_
  rotate_left
  ·(intro w' hS; (try dsimp only at hS); go_simp; try with_reducible rfl)
  try simp only [Act.put, List.getElem_toArray, List.getElem_cons_succ, List.getElem_cons_zero, List.setIfInBounds_toArray, List.set_cons_zero, List.set_cons_succ]
  refine wpAnyH_take (i := 2) (v := ?_) rfl (by kernel_rfl) (by kernel_rfl) (by kernel_rfl) (fun _ _ _ h => h) (Or.inl ⟨by rfl, ?_⟩) (by assumption) ?_
  rotate_left
  ·(intro w' hS; (try dsimp only at hS); go_simp; try with_reducible rfl)
  try simp only [Act.put, List.getElem_toArray, List.getElem_cons_succ, List.getElem_cons_zero, List.setIfInBounds_toArray, List.set_cons_zero, List.set_cons_succ]
  refine wpAnyH_ready (rs := [1]) (by kernel_rfl) (by simp) ?_
  refine AllReadyH.cons rfl (fun K hK => ?_) AllReadyH.nil
  go_simp
  refine (HTo.out _ T2.1).mono ?_
  rintro e wx ⟨A1, cap1, rfl, hown, hbx⟩
  have T2 := T2.on hbx
  clear hbx
  go_wp2_with fail
  refine hK.out _ _ (T2.2.2) (fun hHeld => ?_)
  clear hK K
  try simp only [Act.put, List.getElem_toArray, List.getElem_cons_succ, List.getElem_cons_zero, List.setIfInBounds_toArray, List.set_cons_zero, List.set_cons_succ]
  refine wpAnyH_ready (rs := [3]) (by kernel_rfl) (by simp) ?_
  refine AllReadyH.cons rfl (fun K hK => ?_) AllReadyH.nil
  go_simp
  refine (toDom x y b _).mono ?_
  rintro e wx ⟨rfl, hbx⟩
  have T2 := T2.on hbx
  have hown := own_below hown hbx (Nat.le_refl _)
  clear hbx
  go_wp2_with fail
  refine hK.out _ _ (T2.2.2) (fun hHeld => ?_)
  clear hK K
  try simp only [Act.put, List.getElem_toArray, List.getElem_cons_succ, List.getElem_cons_zero, List.setIfInBounds_toArray, List.set_cons_zero, List.set_cons_succ]
  refine wpAnyH_ready (rs := [4]) (by kernel_rfl) (by simp) ?_
  refine AllReadyH.cons rfl (fun K hK => ?_) AllReadyH.nil
  go_simp
  refine (HS.out _ _ _ _ hown).mono ?_
  rintro e wx ⟨rfl, hbx⟩
  have T2 := T2.on hbx
  clear hbx hown
  go_wp2_with fail
  refine hK.out _ _ (T2.2.2) (fun hHeld => ?_)
  clear hK K
  try simp only [Act.put, List.getElem_toArray, List.getElem_cons_succ, List.getElem_cons_zero, List.setIfInBounds_toArray, List.set_cons_zero, List.set_cons_succ]
  refine wpAnyH_take (i := 5) (v := ?_) rfl (by kernel_rfl) (by kernel_rfl) (by kernel_rfl) (fun _ _ _ h => h) (Or.inl ⟨by rfl, ?_⟩) (by assumption) ?_
  rotate_left
  ·(intro w' hS; (try dsimp only at hS); go_simp; try with_reducible rfl)
  try simp only [Act.put, List.getElem_toArray, List.getElem_cons_succ, List.getElem_cons_zero, List.setIfInBounds_toArray, List.set_cons_zero, List.set_cons_succ]
  refine wpAnyH_take (i := 6) (v := ?_) rfl (by kernel_rfl) (by kernel_rfl) (by kernel_rfl) (fun _ _ _ h => h) (Or.inl ⟨by rfl, ?_⟩) (by assumption) ?_
  rotate_left
  ·(intro w' hS; (try dsimp only at hS); go_simp; try with_reducible rfl)
  try simp only [Act.put, List.getElem_toArray, List.getElem_cons_succ, List.getElem_cons_zero, List.setIfInBounds_toArray, List.set_cons_zero, List.set_cons_succ]
  refine wpAnyH_take (i := 7) (v := ?_) rfl (by kernel_rfl) (by kernel_rfl) (by kernel_rfl) (fun _ _ _ h => h) (Or.inl ⟨by rfl, ?_⟩) (by assumption) ?_
  rotate_left
  ·(intro w' hS; (try dsimp only at hS); go_simp; try with_reducible rfl)
  try simp only [Act.put, List.getElem_toArray, List.getElem_cons_succ, List.getElem_cons_zero, List.setIfInBounds_toArray, List.set_cons_zero, List.set_cons_succ]
  refine wpAnyH_take (i := 8) (v := ?_) rfl (by kernel_rfl) (by kernel_rfl) (by kernel_rfl) (fun _ _ _ h => h) (Or.inl ⟨by rfl, ?_⟩) (by assumption) ?_
  rotate_left
  ·(intro w' hS; (try dsimp only at hS); go_simp; try with_reducible rfl)
  try simp only [Act.put, List.getElem_toArray, List.getElem_cons_succ, List.getElem_cons_zero, List.setIfInBounds_toArray, List.set_cons_zero, List.set_cons_succ]
  refine wpAnyH_take (i := 9) (v := ?_) rfl (by kernel_rfl) (by kernel_rfl) (by kernel_rfl) (fun _ _ _ h => h) (Or.inl ⟨by rfl, ?_⟩) (by assumption) ?_
  rotate_left
  ·(intro w' hS; (try dsimp only at hS); go_simp; try with_reducible rfl)
  try simp only [Act.put, List.getElem_toArray, List.getElem_cons_succ, List.getElem_cons_zero, List.setIfInBounds_toArray, List.set_cons_zero, List.set_cons_succ]
  refine wpAnyH_done (by kernel_rfl) ?_ _
  refine NoPanic.normal ?_
  obtain ⟨_, _, c0, c1, c2, c3⟩ := id T2
  go_wp2_with fail
  refine (HTo.out _ T2.1).mono ?_
  rintro e w4 ⟨A2, cap2, rfl, hown4, hb4⟩
  have hz2 := T2.2.1
  have T5 := T2.on hb4
  have S5 := re2_start T5 (own_base hown4 hz2)
  clear T2 c0 c1 c2 c3 hown4 hb4 T5 HS
  go_upto_region 7 with fail
  generalize w4.alloc (.cells #[.slice A2 n cap2] 26) = W5 at S5 ⊢
  generalize w4.heap.size = p at S5 ⊢
  refine wp_region_noPanic ?_
  have S5 := S5.on (drewN_below (Below.refl _ W5) 1)
  refine wp_region_held_drew (S := (fun w' => w'.cell? ⟨w.heap.size, 0, none⟩ = some (.slice A n cap) ∧ w'.cell? ⟨w.heap.size + 1, 0, none⟩ = some (.int .i64 x) ∧ w'.cell? ⟨w.heap.size + 1, 1, none⟩ = some (.int .i64 y) ∧ w'.cell? ⟨w.heap.size + 1, 2, none⟩ = some (.bool b) ∧ w'.cell? ⟨p, 0, none⟩ = some (.slice A2 n cap2))) (by kernel_rfl) (S5.reads) (fun hHeld => ?_)
  change RE2 w (.slice A n cap) x y b p A2 n cap2 xs W5.drew at S5
  generalize W5.drew = WR at S5 hHeld ⊢
  refine wpAnyH_take (i := 0) (v := ?_) rfl (by kernel_rfl) (by kernel_rfl) (by kernel_rfl) (fun _ _ _ h => h) (Or.inl ⟨by rfl, ?_⟩) (by assumption) ?_
  rotate_left
  ·(intro w' hS; (try dsimp only at hS); go_simp; try with_reducible rfl)
  try simp only [Act.put, List.getElem_toArray, List.getElem_cons_succ, List.getElem_cons_zero, List.setIfInBounds_toArray, List.set_cons_zero, List.set_cons_succ]
  refine wpAnyH_take (i := 1) (v := ?_) rfl (by kernel_rfl) (by kernel_rfl) (by kernel_rfl) (fun _ _ _ h => h) (Or.inl ⟨by rfl, ?_⟩) (by assumption) ?_
  rotate_left
  ·(intro w' hS; (try dsimp only at hS); go_simp; try with_reducible rfl)
  try simp only [Act.put, List.getElem_toArray, List.getElem_cons_succ, List.getElem_cons_zero, List.setIfInBounds_toArray, List.set_cons_zero, List.set_cons_succ]
  refine wpAnyH_ready (rs := [2]) (by kernel_rfl) (by simp) ?_
  refine AllReadyH.cons rfl (fun K hK => ?_) AllReadyH.nil
  go_simp
  refine (toDom x y b _).mono ?_
  rintro e wx ⟨rfl, hbx⟩
  have S5 := S5.on hbx
  clear hbx
  go_wp2_with fail
  refine hK.out _ _ (S5.reads) (fun hHeld => ?_)
  clear hK K
  try simp only [Act.put, List.getElem_toArray, List.getElem_cons_succ, List.getElem_cons_zero, List.setIfInBounds_toArray, List.set_cons_zero, List.set_cons_succ]
  refine wpAnyH_ready (rs := [3]) (by kernel_rfl) (by simp) ?_
  refine AllReadyH.cons rfl (fun K hK => ?_) AllReadyH.nil
  go_simp
  refine (HI.out _ _ _ _ S5.2.2).mono ?_
  rintro e wx ⟨rfl, hbx⟩
  have S5 := S5.on hbx
  clear hbx
  go_wp2_with fail
  refine hK.out _ _ (S5.reads) (fun hHeld => ?_)
  clear hK K
  try simp only [Act.put, List.getElem_toArray, List.getElem_cons_succ, List.getElem_cons_zero, List.setIfInBounds_toArray, List.set_cons_zero, List.set_cons_succ]
  refine wpAnyH_take (i := 4) (v := ?_) rfl (by kernel_rfl) (by kernel_rfl) (by kernel_rfl) (fun _ _ _ h => h) (Or.inl ⟨by rfl, ?_⟩) (by assumption) ?_
  rotate_left
  ·(intro w' hS; (try dsimp only at hS); go_simp; try with_reducible rfl)
  try simp only [Act.put, List.getElem_toArray, List.getElem_cons_succ, List.getElem_cons_zero, List.setIfInBounds_toArray, List.set_cons_zero, List.set_cons_succ]
  refine wpAnyH_take (i := 5) (v := ?_) rfl (by kernel_rfl) (by kernel_rfl) (by kernel_rfl) (fun _ _ _ h => h) (Or.inl ⟨by rfl, ?_⟩) (by assumption) ?_
  rotate_left
  ·(intro w' hS; (try dsimp only at hS); go_simp; try with_reducible rfl)
  try simp only [Act.put, List.getElem_toArray, List.getElem_cons_succ, List.getElem_cons_zero, List.setIfInBounds_toArray, List.set_cons_zero, List.set_cons_succ]
  refine wpAnyH_take (i := 6) (v := ?_) rfl (by kernel_rfl) (by kernel_rfl) (by kernel_rfl) (fun _ _ _ h => h) (Or.inl ⟨by rfl, ?_⟩) (by assumption) ?_
  rotate_left
  ·(intro w' hS; (try dsimp only at hS); go_simp; try with_reducible rfl)
  try simp only [Act.put, List.getElem_toArray, List.getElem_cons_succ, List.getElem_cons_zero, List.setIfInBounds_toArray, List.set_cons_zero, List.set_cons_succ]
  refine wpAnyH_take (i := 7) (v := ?_) rfl (by kernel_rfl) (by kernel_rfl) (by kernel_rfl) (fun _ _ _ h => h) (Or.inl ⟨by rfl, ?_⟩) (by assumption) ?_
  rotate_left
  ·(intro w' hS; (try dsimp only at hS); go_simp; try with_reducible rfl)
  try simp only [Act.put, List.getElem_toArray, List.getElem_cons_succ, List.getElem_cons_zero, List.setIfInBounds_toArray, List.set_cons_zero, List.set_cons_succ]
  refine wpAnyH_take (i := 8) (v := ?_) rfl (by kernel_rfl) (by kernel_rfl) (by kernel_rfl) (fun _ _ _ h => h) (Or.inl ⟨by rfl, ?_⟩) (by assumption) ?_
  rotate_left
  ·(intro w' hS; (try dsimp only at hS); go_simp; try with_reducible rfl)
  try simp only [Act.put, List.getElem_toArray, List.getElem_cons_succ, List.getElem_cons_zero, List.setIfInBounds_toArray, List.set_cons_zero, List.set_cons_succ]
  refine wpAnyH_done (by kernel_rfl) ?_ _
  refine NoPanic.normal ?_
  go_wp2_with fail
  refine wp_region_noPanic ?_
  have S6 := S5.on (drewN_below (Below.refl _ _) 1)
  refine wp_region_held_drew (S := (fun w' => w'.cell? ⟨w.heap.size, 0, none⟩ = some (.slice A n cap) ∧ w'.cell? ⟨w.heap.size + 1, 0, none⟩ = some (.int .i64 x) ∧ w'.cell? ⟨w.heap.size + 1, 1, none⟩ = some (.int .i64 y) ∧ w'.cell? ⟨w.heap.size + 1, 2, none⟩ = some (.bool b) ∧ w'.cell? ⟨p, 0, none⟩ = some (.slice A2 n cap2))) (by kernel_rfl) (S6.reads) (fun hHeld => ?_)
  change RE2 w (.slice A n cap) x y b p A2 n cap2 xs (World.drew _) at S6
  generalize World.drew _ = WR at S6 hHeld ⊢
  clear S5
  refine wpAnyH_take (i := 0) (v := ?_) rfl (by kernel_rfl) (by kernel_rfl) (by kernel_rfl) (fun _ _ _ h => h) (Or.inl ⟨by rfl, ?_⟩) (by assumption) ?_
  rotate_left
  ·(intro w' hS; (try dsimp only at hS); go_simp; try with_reducible rfl)
  try simp only [Act.put, List.getElem_toArray, List.getElem_cons_succ, List.getElem_cons_zero, List.setIfInBounds_toArray, List.set_cons_zero, List.set_cons_succ]
  refine wpAnyH_take (i := 1) (v := ?_) rfl (by kernel_rfl) (by kernel_rfl) (by kernel_rfl) (fun _ _ _ h => h) (Or.inl ⟨by rfl, ?_⟩) (by assumption) ?_
  rotate_left
  ·(intro w' hS; (try dsimp only at hS); go_simp; try with_reducible rfl)
  try simp only [Act.put, List.getElem_toArray, List.getElem_cons_succ, List.getElem_cons_zero, List.setIfInBounds_toArray, List.set_cons_zero, List.set_cons_succ]
  refine wpAnyH_ready (rs := [2]) (by kernel_rfl) (by simp) ?_
  refine AllReadyH.cons rfl (fun K hK => ?_) AllReadyH.nil
  go_simp
  refine (HTo.out _ S6.1.1).mono ?_
  rintro e wx ⟨A3, cap3, rfl, hown, hbx⟩
  have S6 := S6.on hbx
  clear hbx
  go_wp2_with fail
  refine hK.out _ _ (S6.reads) (fun hHeld => ?_)
  clear hK K
  try simp only [Act.put, List.getElem_toArray, List.getElem_cons_succ, List.getElem_cons_zero, List.setIfInBounds_toArray, List.set_cons_zero, List.set_cons_succ]
  refine wpAnyH_ready (rs := [3]) (by kernel_rfl) (by simp) ?_
  refine AllReadyH.cons rfl (fun K hK => ?_) AllReadyH.nil
  go_simp
  refine (HEq.out _ _ _ _ _ (rowB_own S6.2.2) (rowB_own hown)).mono ?_
  rintro e wx ⟨rfl, hbx⟩
  have S6 := S6.on hbx
  clear hbx hown
  go_wp2_with fail
  refine hK.out _ _ (S6.reads) (fun hHeld => ?_)
  clear hK K
  try simp only [Act.put, List.getElem_toArray, List.getElem_cons_succ, List.getElem_cons_zero, List.setIfInBounds_toArray, List.set_cons_zero, List.set_cons_succ]
  refine wpAnyH_take (i := 4) (v := ?_) rfl (by kernel_rfl) (by kernel_rfl) (by kernel_rfl) (fun _ _ _ h => h) (Or.inl ⟨by rfl, ?_⟩) (by assumption) ?_
  rotate_left
  ·(intro w' hS; (try dsimp only at hS); go_simp; try with_reducible rfl)
  try simp only [Act.put, List.getElem_toArray, List.getElem_cons_succ, List.getElem_cons_zero, List.setIfInBounds_toArray, List.set_cons_zero, List.set_cons_succ]
  refine wpAnyH_done (by kernel_rfl) ?_ _
  refine NoPanic.normal ?_
  have hb := S6.1.1
  clear S6 hHeld
  go_wp2
  go_ret
  exact ⟨rfl, hb⟩
 ·rw [szR_no hs] at HZ
  clear hs hx hn h
  go_enter Try.func7, Try.ntmps7
  go_wp2_with fail
  have T1 := T0.out 47 55
  clear T0
  refine (HZ.out _).mono ?_
  rintro e w1 ⟨rfl, hb1⟩
  have hb := (T1.on hb1).1
  clear T1 hb1 HZ
  go_wp2
  go_ret
  exact ⟨rfl, hb⟩
end Go.Proofs.Ytjfagpmklifjlaa.Frd

namespace Go.Proofs.Ytjfagpmklifjlaa.Frd
set_option linter.unusedVariables false
set_option linter.unusedSimpArgs false
set_option maxRecDepth 100000
open Go.RowKit Go.Proofs.Ytjfagpmklifjlaa.Cell Go.Proofs.Ytjfagpmklifjlaa.Dom Go.Proofs.Ytjfagpmklifjlaa.Fr Go.Joins
open Go.Proofs.Ytjfagpmklifjlaa.Cnt (tilesR)
open Go.Proofs.Ytjfagpmklifjlaa.Reg hiding add_none RC rc_start Yes

def RDc (w : World) (v : Value) (x y : Int) (W : World) : Prop :=
 Below w.heap.size w W ∧ w.heap.size + 2 ≤ W.heap.size ∧ W.cell? ⟨w.heap.size, 0, none⟩ = some v ∧ W.cell? ⟨w.heap.size + 1, 0, none⟩ = some (.int .i64 x) ∧ W.cell? ⟨w.heap.size + 1, 1, none⟩ = some (.int .i64 y)
section
variable {w W W' : World} {v : Value} {x y : Int}
theorem RDc.on (h : RDc w v x y W) (hb : Below W.heap.size W W') : RDc w v x y W' := by
 obtain ⟨h0, h1, h2, h3, h4⟩ := h
 have hz := hb.size
 refine ⟨h0.trans (hb.mono (by omega)), by omega, ?_, ?_, ?_⟩
 ·exact (hb.cell (by show w.heap.size < _; omega)).trans h2
 ·exact (hb.cell (by show w.heap.size + 1 < _; omega)).trans h3
 ·exact (hb.cell (by show w.heap.size + 1 < _; omega)).trans h4
theorem rdc_start (w : World) (v : Value) (x y : Int) (T T' : TypeId) : RDc w v x y ((w.alloc (.cells #[v] T)).alloc (.cells #[.int .i64 x, .int .i64 y] T')) := by
 have e0 : (w.alloc (.cells #[v] T)).heap.size = w.heap.size + 1 := by simp
 have h1 := heap_alloc_new (w.alloc (.cells #[v] T)) (.cells #[.int .i64 x, .int .i64 y] T')
 rw [e0] at h1
 have h0 : ((w.alloc (.cells #[v] T)).alloc (.cells #[.int .i64 x, .int .i64 y] T')).heap[w.heap.size]? = some (.cells #[v] T) :=
  ((below_alloc1 (w.alloc (.cells #[v] T)) _).block w.heap.size (by rw [e0]; omega)).trans (heap_alloc_new w _)
 exact ⟨below_alloc2 w _ _, by simp, (cellAt h0 0).1.trans rfl, (cellAt h1 0).1.trans rfl, (cellAt h1 1).1.trans rfl⟩
def REc (w : World) (v : Value) (x y : Int) (p : Nat) (A : Option Addr) (n cap : Nat) (xs : List Int) (W : World) : Prop :=
 RDc w v x y W ∧ W.heap[p]? = some (.cells #[.slice A n cap] 26) ∧ W.ownsRow (w.heap.size + 2) 3 1 (.slice A n cap) n (ints xs)
variable {p n cap : Nat} {A : Option Addr} {xs : List Int}
theorem REc.on (h : REc w v x y p A n cap xs W) (hb : Below W.heap.size W W') : REc w v x y p A n cap xs W' :=
 ⟨h.1.on hb, (hb.block p (Array.getElem?_eq_some_iff.1 h.2.1).1).trans h.2.1, own_below h.2.2 hb (Nat.le_refl _)⟩
theorem rec_start (h : RDc w v x y W) (ho : W.ownsRow (w.heap.size + 2) 3 1 (.slice A n cap) n (ints xs)) : REc w v x y W.heap.size A n cap xs (W.alloc (.cells #[.slice A n cap] 26)) :=
 ⟨h.on (below_alloc1 W _), heap_alloc_new W _, own_below ho (below_alloc1 W _) (Nat.le_refl _)⟩
theorem REc.reads (h : REc w v x y p A n cap xs W) : W.cell? ⟨w.heap.size, 0, none⟩ = some v ∧ W.cell? ⟨w.heap.size + 1, 0, none⟩ = some (.int .i64 x) ∧ W.cell? ⟨w.heap.size + 1, 1, none⟩ = some (.int .i64 y) ∧ W.cell? ⟨p, 0, none⟩ = some (.slice A n cap) :=
 ⟨h.1.2.2.1, h.1.2.2.2.1, h.1.2.2.2.2, (cellAt h.2.1 0).1.trans rfl⟩
end

set_option maxHeartbeats 4000000 in
theorem lawCountOver (w : World) (A : Option Addr) (n cap : Nat) (xs : List Int) (hx : xs.length = n) (hn : (n : Int) ≤ 9223372036854775807) (h : RowB w w.heap.size A xs) (x y : Int) :
  Calls Try.prog 8 #[.agg #[.slice A n cap], .agg #[.int .i64 x, .int .i64 y]] w (Dom.Yes w) := by
 have T0 := Lib.hid (fun T T' => rdc_start w (.slice A n cap) x y T T')
 have HZ := Lib.hid (fun W => szRegion A n cap 1048576 (by omega) (by omega) hn W)
 by_cases hs : (n : Int) ≤ 1048576
 ·have HTo := Lib.hid (fun W (hb : Below w.heap.size w W) => toRegion W A n cap w.heap.size xs hx hs (h.below hb (Nat.le_refl _)) hb.size)
  have HEq := Lib.hid (fun W A A' c c' (h1 : RowB W W.heap.size A xs) (h2 : RowB W W.heap.size A' xs) => eqRegion W A A' n c c' _ _ xs hx hn h1 h2 (Nat.le_refl _) (Nat.le_refl _))
  have HS := Lib.hid (fun W A c base (h1 : W.ownsRow base 3 1 (.slice A n c) n (ints xs)) => sCountOver W A n c W.heap.size xs hx hs (rowB_own h1) (Nat.le_refl _) (own_none h1) x y)
  have HI := Lib.hid (fun W A c base (h1 : W.ownsRow base 3 1 (.slice A n c) n (ints xs)) => iCountOver W A n c W.heap.size xs hx hs (rowB_own h1) (Nat.le_refl _) (own_none h1) x y)
  have hz := szR_yes hs
  generalize szR 1048576 n = z at HZ hz
  obtain ⟨z0, z1⟩ := hz
  have z2 : ¬ z < 0 := by omega
  generalize (((overL (possD xs) x y).length : Nat) : Int) = t at HS HI
  have hq : (t != t) = false := by simp
  clear hs hx hn h
  go_enter Try.func8, Try.ntmps8
  go_wp2_with fail
  have T1 := T0.out 47 58
  clear T0
  refine (HZ.out _).mono ?_
  rintro e w1 ⟨rfl, hb1⟩
  have T2 := T1.on hb1
  clear T1 hb1 HZ
  obtain ⟨_, _, c0, c1, c2⟩ := id T2
  go_wp2_with fail
  clear c0 c1 c2
  refine wp_region_noPanic ?_
  have T2 := T2.on (drewN_below (Below.refl _ w1) 1)
  refine wp_region_held_drew (S := (fun w' => w'.cell? ⟨w.heap.size, 0, none⟩ = some (.slice A n cap) ∧ w'.cell? ⟨w.heap.size + 1, 0, none⟩ = some (.int .i64 x) ∧ w'.cell? ⟨w.heap.size + 1, 1, none⟩ = some (.int .i64 y))) (by kernel_rfl) (T2.2.2) (fun hHeld => ?_)
  change RDc w (.slice A n cap) x y w1.drew at T2
  generalize w1.drew = WR at T2 hHeld ⊢
  refine wpAnyH_take (i := 0) (v := ?_) rfl (by kernel_rfl) (by kernel_rfl) (by kernel_rfl) (fun _ _ _ h => h) (Or.inl ⟨by rfl, ?_⟩) (by assumption) ?_
  rotate_left
  ·(intro w' hS; (try dsimp only at hS); go_simp; try with_reducible rfl)
  try simp only [Act.put, List.getElem_toArray, List.getElem_cons_succ, List.getElem_cons_zero, List.setIfInBounds_toArray, List.set_cons_zero, List.set_cons_succ]
  refine wpAnyH_take (i := 2) (v := ?_) rfl (by kernel_rfl) (by kernel_rfl) (by kernel_rfl) (fun _ _ _ h => h) (Or.inl ⟨by rfl, ?_⟩) (by assumption) ?_
  rotate_left
  ·(intro w' hS; (try dsimp only at hS); go_simp; try with_reducible rfl)
  try simp only [Act.put, List.getElem_toArray, List.getElem_cons_succ, List.getElem_cons_zero, List.setIfInBounds_toArray, List.set_cons_zero, List.set_cons_succ]
  refine wpAnyH_ready (rs := [1]) (by kernel_rfl) (by simp) ?_
  refine AllReadyH.cons rfl (fun K hK => ?_) AllReadyH.nil
  go_simp
  refine (HTo.out _ T2.1).mono ?_
  rintro e wx ⟨A1, cap1, rfl, hown, hbx⟩
  have T2 := T2.on hbx
  clear hbx
  go_wp2_with fail
  refine hK.out _ _ (T2.2.2) (fun hHeld => ?_)
  clear hK K
  try simp only [Act.put, List.getElem_toArray, List.getElem_cons_succ, List.getElem_cons_zero, List.setIfInBounds_toArray, List.set_cons_zero, List.set_cons_succ]
  refine wpAnyH_ready (rs := [3]) (by kernel_rfl) (by simp) ?_
  refine AllReadyH.cons rfl (fun K hK => ?_) AllReadyH.nil
  go_simp
  refine (toCell x y _).mono ?_
  rintro e wx ⟨rfl, hbx⟩
  have T2 := T2.on hbx
  have hown := own_below hown hbx (Nat.le_refl _)
  clear hbx
  go_wp2_with fail
  refine hK.out _ _ (T2.2.2) (fun hHeld => ?_)
  clear hK K
  try simp only [Act.put, List.getElem_toArray, List.getElem_cons_succ, List.getElem_cons_zero, List.setIfInBounds_toArray, List.set_cons_zero, List.set_cons_succ]
  refine wpAnyH_ready (rs := [4]) (by kernel_rfl) (by simp) ?_
  refine AllReadyH.cons rfl (fun K hK => ?_) AllReadyH.nil
  go_simp
  refine (HS.out _ _ _ _ hown).mono ?_
  rintro e wx ⟨rfl, hbx⟩
  have T2 := T2.on hbx
  clear hbx hown
  go_wp2_with fail
  refine hK.out _ _ (T2.2.2) (fun hHeld => ?_)
  clear hK K
  try simp only [Act.put, List.getElem_toArray, List.getElem_cons_succ, List.getElem_cons_zero, List.setIfInBounds_toArray, List.set_cons_zero, List.set_cons_succ]
  refine wpAnyH_take (i := 5) (v := ?_) rfl (by kernel_rfl) (by kernel_rfl) (by kernel_rfl) (fun _ _ _ h => h) (Or.inl ⟨by rfl, ?_⟩) (by assumption) ?_
  rotate_left
  ·(intro w' hS; (try dsimp only at hS); go_simp; try with_reducible rfl)
  try simp only [Act.put, List.getElem_toArray, List.getElem_cons_succ, List.getElem_cons_zero, List.setIfInBounds_toArray, List.set_cons_zero, List.set_cons_succ]
  refine wpAnyH_done (by kernel_rfl) ?_ _
  refine NoPanic.normal ?_
  obtain ⟨_, _, c0, c1, c2⟩ := id T2
  go_wp2_with fail
  refine (HTo.out _ T2.1).mono ?_
  rintro e w4 ⟨A2, cap2, rfl, hown4, hb4⟩
  have hz2 := T2.2.1
  have T5 := T2.on hb4
  have S5 := rec_start T5 (own_base hown4 hz2)
  clear T2 c0 c1 c2 hown4 hb4 T5 HS
  go_upto_region 7 with fail
  generalize w4.alloc (.cells #[.slice A2 n cap2] 26) = W5 at S5 ⊢
  generalize w4.heap.size = p at S5 ⊢
  refine wp_region_noPanic ?_
  have S5 := S5.on (drewN_below (Below.refl _ W5) 1)
  refine wp_region_held_drew (S := (fun w' => w'.cell? ⟨w.heap.size, 0, none⟩ = some (.slice A n cap) ∧ w'.cell? ⟨w.heap.size + 1, 0, none⟩ = some (.int .i64 x) ∧ w'.cell? ⟨w.heap.size + 1, 1, none⟩ = some (.int .i64 y) ∧ w'.cell? ⟨p, 0, none⟩ = some (.slice A2 n cap2))) (by kernel_rfl) (S5.reads) (fun hHeld => ?_)
  change REc w (.slice A n cap) x y p A2 n cap2 xs W5.drew at S5
  generalize W5.drew = WR at S5 hHeld ⊢
  refine wpAnyH_take (i := 0) (v := ?_) rfl (by kernel_rfl) (by kernel_rfl) (by kernel_rfl) (fun _ _ _ h => h) (Or.inl ⟨by rfl, ?_⟩) (by assumption) ?_
  rotate_left
  ·(intro w' hS; (try dsimp only at hS); go_simp; try with_reducible rfl)
  try simp only [Act.put, List.getElem_toArray, List.getElem_cons_succ, List.getElem_cons_zero, List.setIfInBounds_toArray, List.set_cons_zero, List.set_cons_succ]
  refine wpAnyH_take (i := 1) (v := ?_) rfl (by kernel_rfl) (by kernel_rfl) (by kernel_rfl) (fun _ _ _ h => h) (Or.inl ⟨by rfl, ?_⟩) (by assumption) ?_
  rotate_left
  ·(intro w' hS; (try dsimp only at hS); go_simp; try with_reducible rfl)
  try simp only [Act.put, List.getElem_toArray, List.getElem_cons_succ, List.getElem_cons_zero, List.setIfInBounds_toArray, List.set_cons_zero, List.set_cons_succ]
  refine wpAnyH_ready (rs := [2]) (by kernel_rfl) (by simp) ?_
  refine AllReadyH.cons rfl (fun K hK => ?_) AllReadyH.nil
  go_simp
  refine (toCell x y _).mono ?_
  rintro e wx ⟨rfl, hbx⟩
  have S5 := S5.on hbx
  clear hbx
  go_wp2_with fail
  refine hK.out _ _ (S5.reads) (fun hHeld => ?_)
  clear hK K
  try simp only [Act.put, List.getElem_toArray, List.getElem_cons_succ, List.getElem_cons_zero, List.setIfInBounds_toArray, List.set_cons_zero, List.set_cons_succ]
  refine wpAnyH_ready (rs := [3]) (by kernel_rfl) (by simp) ?_
  refine AllReadyH.cons rfl (fun K hK => ?_) AllReadyH.nil
  go_simp
  refine (HI.out _ _ _ _ S5.2.2).mono ?_
  rintro e wx ⟨rfl, hbx⟩
  have S5 := S5.on hbx
  clear hbx
  go_wp2_with fail
  refine hK.out _ _ (S5.reads) (fun hHeld => ?_)
  clear hK K
  try simp only [Act.put, List.getElem_toArray, List.getElem_cons_succ, List.getElem_cons_zero, List.setIfInBounds_toArray, List.set_cons_zero, List.set_cons_succ]
  refine wpAnyH_take (i := 4) (v := ?_) rfl (by kernel_rfl) (by kernel_rfl) (by kernel_rfl) (fun _ _ _ h => h) (Or.inl ⟨by rfl, ?_⟩) (by assumption) ?_
  rotate_left
  ·(intro w' hS; (try dsimp only at hS); go_simp; try with_reducible rfl)
  try simp only [Act.put, List.getElem_toArray, List.getElem_cons_succ, List.getElem_cons_zero, List.setIfInBounds_toArray, List.set_cons_zero, List.set_cons_succ]
  refine wpAnyH_done (by kernel_rfl) ?_ _
  refine NoPanic.normal ?_
  go_wp2_with fail
  refine wp_region_noPanic ?_
  have S6 := S5.on (drewN_below (Below.refl _ _) 1)
  refine wp_region_held_drew (S := (fun w' => w'.cell? ⟨w.heap.size, 0, none⟩ = some (.slice A n cap) ∧ w'.cell? ⟨w.heap.size + 1, 0, none⟩ = some (.int .i64 x) ∧ w'.cell? ⟨w.heap.size + 1, 1, none⟩ = some (.int .i64 y) ∧ w'.cell? ⟨p, 0, none⟩ = some (.slice A2 n cap2))) (by kernel_rfl) (S6.reads) (fun hHeld => ?_)
  change REc w (.slice A n cap) x y p A2 n cap2 xs (World.drew _) at S6
  generalize World.drew _ = WR at S6 hHeld ⊢
  clear S5
  refine wpAnyH_take (i := 0) (v := ?_) rfl (by kernel_rfl) (by kernel_rfl) (by kernel_rfl) (fun _ _ _ h => h) (Or.inl ⟨by rfl, ?_⟩) (by assumption) ?_
  rotate_left
  ·(intro w' hS; (try dsimp only at hS); go_simp; try with_reducible rfl)
  try simp only [Act.put, List.getElem_toArray, List.getElem_cons_succ, List.getElem_cons_zero, List.setIfInBounds_toArray, List.set_cons_zero, List.set_cons_succ]
  refine wpAnyH_take (i := 1) (v := ?_) rfl (by kernel_rfl) (by kernel_rfl) (by kernel_rfl) (fun _ _ _ h => h) (Or.inl ⟨by rfl, ?_⟩) (by assumption) ?_
  rotate_left
  ·(intro w' hS; (try dsimp only at hS); go_simp; try with_reducible rfl)
  try simp only [Act.put, List.getElem_toArray, List.getElem_cons_succ, List.getElem_cons_zero, List.setIfInBounds_toArray, List.set_cons_zero, List.set_cons_succ]
  refine wpAnyH_ready (rs := [2]) (by kernel_rfl) (by simp) ?_
  refine AllReadyH.cons rfl (fun K hK => ?_) AllReadyH.nil
  go_simp
  refine (HTo.out _ S6.1.1).mono ?_
  rintro e wx ⟨A3, cap3, rfl, hown, hbx⟩
  have S6 := S6.on hbx
  clear hbx
  go_wp2_with fail
  refine hK.out _ _ (S6.reads) (fun hHeld => ?_)
  clear hK K
  try simp only [Act.put, List.getElem_toArray, List.getElem_cons_succ, List.getElem_cons_zero, List.setIfInBounds_toArray, List.set_cons_zero, List.set_cons_succ]
  refine wpAnyH_ready (rs := [3]) (by kernel_rfl) (by simp) ?_
  refine AllReadyH.cons rfl (fun K hK => ?_) AllReadyH.nil
  go_simp
  refine (HEq.out _ _ _ _ _ (rowB_own S6.2.2) (rowB_own hown)).mono ?_
  rintro e wx ⟨rfl, hbx⟩
  have S6 := S6.on hbx
  clear hbx hown
  go_wp2_with fail
  refine hK.out _ _ (S6.reads) (fun hHeld => ?_)
  clear hK K
  try simp only [Act.put, List.getElem_toArray, List.getElem_cons_succ, List.getElem_cons_zero, List.setIfInBounds_toArray, List.set_cons_zero, List.set_cons_succ]
  refine wpAnyH_take (i := 4) (v := ?_) rfl (by kernel_rfl) (by kernel_rfl) (by kernel_rfl) (fun _ _ _ h => h) (Or.inl ⟨by rfl, ?_⟩) (by assumption) ?_
  rotate_left
  ·(intro w' hS; (try dsimp only at hS); go_simp; try with_reducible rfl)
  try simp only [Act.put, List.getElem_toArray, List.getElem_cons_succ, List.getElem_cons_zero, List.setIfInBounds_toArray, List.set_cons_zero, List.set_cons_succ]
  refine wpAnyH_done (by kernel_rfl) ?_ _
  refine NoPanic.normal ?_
  have hb := S6.1.1
  clear S6 hHeld
  go_wp2
  go_ret
  exact ⟨rfl, hb⟩
 ·rw [szR_no hs] at HZ
  clear hs hx hn h
  go_enter Try.func8, Try.ntmps8
  go_wp2_with fail
  have T1 := T0.out 47 58
  clear T0
  refine (HZ.out _).mono ?_
  rintro e w1 ⟨rfl, hb1⟩
  have hb := (T1.on hb1).1
  clear T1 hb1 HZ
  go_wp2
  go_ret
  exact ⟨rfl, hb⟩
end Go.Proofs.Ytjfagpmklifjlaa.Frd
