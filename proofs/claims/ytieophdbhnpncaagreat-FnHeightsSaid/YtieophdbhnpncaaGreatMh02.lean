/- DomH, DomO, DmM in one text. -/
import Derived.Test.YtieophdbhnpncaaGreatMh01
import Derived.OwnWalk
import Derived.Laws.AppendOwn
import Derived.Deep.AppendLies
import Derived.Laws.OwnMore
import Derived.Deep.Slices
import Derived.Deep.Strs
import Derived.OpenShut

namespace Go.Proofs.YtieophdbhnpncaaGreat.Dom
set_option linter.unusedVariables false
set_option linter.unusedSimpArgs false
open Go.RowKit Go.Proofs.YtieophdbhnpncaaGreat.Cell Go.Proofs.YtieophdbhnpncaaGreat.CellF Go.Joins

def befP (x y : Int) (b : Bool) (u v : Int) (c : Bool) : Bool := decide (y * 8 + x < v * 8 + u ∨ (y * 8 + x = v * 8 + u ∧ b = false ∧ c = true))
theorem befP_iff {x y : Int} {b : Bool} {u v : Int} {c : Bool} : befP x y b u v c = true ↔ (y * 8 + x < v * 8 + u ∨ (y * 8 + x = v * 8 + u ∧ b = false ∧ c = true)) := by unfold befP; simp
def befB (x y : Int) (b : Bool) (u v : Int) (c : Bool) : Bool := domB x y b && domB u v c && befP x y b u v c
theorem dom_ok {x y : Int} {b : Bool} (h : domB x y b = true) : Ok x y := by
 unfold domB at h
 simp only [Bool.and_eq_true] at h
 exact okB_iff.1 h.1
theorem index_of {x y : Int} (h : Ok x y) : indexN x y = y * 8 + x := by unfold indexN; simp [h]

set_option maxHeartbeats 1000000 in
theorem sIsBefore (x y : Int) (b : Bool) (u v : Int) (c : Bool) (w : World) :
  Calls Tryz.prog 72 #[.agg #[.int .i64 x, .int .i64 y, .bool b], .agg #[.int .i64 u, .int .i64 v, .bool c]] w (Bol (befB x y b u v c) w) := by
 have HO1 := Lib.hid (fun W => sDominoOk x y b W)
 have HO2 := Lib.hid (fun W => sDominoOk u v c W)
 have HB := Lib.hid (show befB x y b u v c = (domB x y b && domB u v c && befP x y b u v c) from rfl)
 have HK1 := Lib.hid (fun (h : domB x y b = true) => dom_ok h)
 have HK2 := Lib.hid (fun (h : domB u v c = true) => dom_ok h)
 generalize befB x y b u v c = r at HB ⊢
 generalize domB x y b = p at HO1 HB HK1
 generalize domB u v c = q at HO2 HB HK2
 go_enter Tryz.func72, Tryz.ntmps72
 go_wp2_with fail
 refine (HO1.out _).mono ?_
 rintro e w1 ⟨rfl, hb1⟩
 obtain ⟨hb, K1, K2⟩ := bx33 x y b u v c w w1 hb1
 have c0 := K1.c0
 have c1 := K1.c1
 have c2 := K1.c2
 have d0 := K2.c0
 have d1 := K2.c1
 have d2 := K2.c2
 clear hb1 HO1
 cases p with
 | false =>
  go_wp2
  go_ret
  exact mkBol (by rw [HB.out]; rfl) hb
 | true =>
  go_wp2_with fail
  refine (HO2.out _).mono ?_
  rintro e w2 ⟨rfl, hb2⟩
  have hb' := hb.trans (hb2.mono hb.size)
  have K1 := K1.on hb2
  have K2 := K2.on hb2
  clear hb hb2 c0 c1 c2 d0 d1 d2 HO2
  have c0 := K1.c0
  have c1 := K1.c1
  have c2 := K1.c2
  have d0 := K2.c0
  have d1 := K2.c1
  have d2 := K2.c2
  clear K1 K2
  cases q with
  | false =>
   go_wp2
   go_ret
   exact mkBol (by rw [HB.out]; rfl) hb'
  | true =>
   obtain ⟨x0, x7, y0, y7⟩ := HK1.out (by trivial)
   obtain ⟨u0, u7, v0, v7⟩ := HK2.out (by trivial)
   have HH := Lib.hid (fun z (h : z = true ↔ (y * 8 + x < v * 8 + u ∨ (y * 8 + x = v * 8 + u ∧ b = false ∧ c = true))) => mkBol (v := z) (b := r) (by rw [Bool.eq_iff_iff, h, HB.out, Bool.true_and, Bool.true_and, befP_iff]) hb')
   clear HB HK1 HK2 hb'
   go_wp2
   all_goals
    go_ret
    refine HH.out _ ?_
    cases b <;> cases c <;> first | contradiction | (simp; done) | (simp; omega) | omega

set_option maxHeartbeats 1000000 in
theorem iIsBefore (x y : Int) (b : Bool) (u v : Int) (c : Bool) (hx : Sm x) (hy : Sm y) (hu : Sm u) (hv : Sm v) (w : World) :
  Calls Tryz.prog 110 #[.agg #[.int .i64 x, .int .i64 y, .bool b], .agg #[.int .i64 u, .int .i64 v, .bool c]] w (Bol (befB x y b u v c) w) := by
 have HO1 := Lib.hid (fun W => iDominoOk x y b hx hy W)
 have HO2 := Lib.hid (fun W => iDominoOk u v c hu hv W)
 have HC1 := Lib.hid (fun W => iCells x y b hx hy W)
 have HC2 := Lib.hid (fun W => iCells u v c hu hv W)
 have HB := Lib.hid (show befB x y b u v c = (domB x y b && domB u v c && befP x y b u v c) from rfl)
 have HK1 := Lib.hid (fun (h : domB x y b = true) => dom_ok h)
 have HK2 := Lib.hid (fun (h : domB u v c = true) => dom_ok h)
 generalize befB x y b u v c = r at HB ⊢
 generalize sx x b = m at HC1
 generalize sy y b = n at HC1
 generalize sx u c = s at HC2
 generalize sy v c = t at HC2
 generalize domB x y b = p at HO1 HB HK1
 generalize domB u v c = q at HO2 HB HK2
 clear hx hy hu hv
 go_enter Tryz.func110, Tryz.ntmps110
 go_wp2_with fail
 refine (HO1.out _).mono ?_
 rintro e w1 ⟨rfl, hb1⟩
 obtain ⟨hb, K1, K2⟩ := bx33 x y b u v c w w1 hb1
 have c0 := K1.c0
 have c1 := K1.c1
 have c2 := K1.c2
 have d0 := K2.c0
 have d1 := K2.c1
 have d2 := K2.c2
 clear hb1 HO1
 cases p with
 | false =>
  go_wp2
  go_ret
  exact mkBol (by rw [HB.out]; rfl) hb
 | true =>
  go_wp2_with fail
  refine (HO2.out _).mono ?_
  rintro e w2 ⟨rfl, hb2⟩
  have hb' := hb.trans (hb2.mono hb.size)
  have K1 := K1.on hb2
  have K2 := K2.on hb2
  clear hb hb2 c0 c1 c2 d0 d1 d2 HO2
  have c0 := K1.c0
  have c1 := K1.c1
  have c2 := K1.c2
  cases q with
  | false =>
   go_wp2
   go_ret
   exact mkBol (by rw [HB.out]; rfl) hb'
  | true =>
   have HN1 := Lib.hid (index_of (HK1.out (by trivial)))
   have HN2 := Lib.hid (index_of (HK2.out (by trivial)))
   go_wp2_with fail
   refine (HC1.out _).mono ?_
   rintro e w3 ⟨rfl, hb3⟩
   have hB := hb'.trans (hb3.mono hb'.size)
   have K1 := K1.on hb3
   have K2 := K2.on hb3
   clear hb' hb3 c0 c1 c2 HC1
   go_upto_region 4 with fail
   obtain ⟨k1, k2, k3⟩ := at2_two w3 x y m n
   have hB := hB.trans (k3.mono hB.size)
   have K1 := K1.on k3
   have K2 := K2.on k3
   generalize (w3.alloc (.cells #[.int .i64 x, .int .i64 y] 38)).alloc (.cells #[.int .i64 m, .int .i64 n] 38) = W at k1 k2 K1 K2 hB ⊢
   have d0 := K2.c0
   have d1 := K2.c1
   have d2 := K2.c2
   clear k2 k3
   go_wp2_with fail
   refine (HC2.out _).mono ?_
   rintro e w4 ⟨rfl, hb4⟩
   have hB := hB.trans (hb4.mono hB.size)
   have k1 := k1.on hb4
   have K1 := K1.on hb4
   have K2 := K2.on hb4
   clear d0 d1 d2 hb4 HC2
   go_upto_region 5 with fail
   obtain ⟨j1, j2, j3⟩ := at2_two w4 u v s t
   have hB := hB.trans (j3.mono hB.size)
   have k1 := k1.on j3
   have K1 := K1.on j3
   have K2 := K2.on j3
   generalize (w4.alloc (.cells #[.int .i64 u, .int .i64 v] 38)).alloc (.cells #[.int .i64 s, .int .i64 t] 38) = W5 at k1 K1 K2 j1 j2 hB ⊢
   clear j2 j3
   have c0 := k1.c0
   have c1 := k1.c1
   have d0 := j1.c0
   have d1 := j1.c1
   by_cases he : x = u ∧ y = v
   ·obtain ⟨rfl, rfl⟩ := he
    have e0 := K1.c0
    have e1 := K1.c1
    have e2 := K1.c2
    have f0 := K2.c0
    have f1 := K2.c1
    have f2 := K2.c2
    have HH := Lib.hid (fun z (h : z = (!b && c)) => mkBol (v := z) (b := r) (by rw [Bool.eq_iff_iff, h, HB.out, Bool.true_and, Bool.true_and, befP_iff]; simp) hB)
    clear HB hB K1 K2 k1 j1 HN1 HN2 HK1 HK2
    cases b <;> cases c
    all_goals
     go_wp2
     go_ret
     exact HH.out _ rfl
   ·have HH := Lib.hid (fun W' z (h : z = decide (indexN x y < indexN u v)) (hb : Below w.heap.size w W') => mkBol (v := z) (b := r) (W := W') (by
     obtain ⟨x0, x7, y0, y7⟩ := HK1.out (by trivial)
     obtain ⟨u0, u7, v0, v7⟩ := HK2.out (by trivial)
     rw [Bool.eq_iff_iff, h, HB.out, Bool.true_and, Bool.true_and, befP_iff, HN1.out, HN2.out]; simp; omega) hb)
    have HI1 := Lib.hid (fun W => iCellIndex x y W)
    have HI2 := Lib.hid (fun W => iCellIndex u v W)
    generalize indexN x y = i1 at HI1 HH
    generalize indexN u v = i2 at HI2 HH
    clear HB K1 K2 HN1 HN2 HK1 HK2
    by_cases hxu : x = u
    ·subst hxu
     have hyv : ¬ y = v := fun h => he ⟨rfl, h⟩
     clear he
     go_upto_region 6 with fail
     have hlt1 := k1.lt
     have hlt2 := j1.lt
     refine wp_region_noPanic ?_
     refine wp_region_held_drew (S := (fun w' => w'.cell? ⟨w3.heap.size, 0, none⟩ = some (.int .i64 x) ∧ w'.cell? ⟨w3.heap.size, 1, none⟩ = some (.int .i64 y) ∧ w'.cell? ⟨w4.heap.size, 0, none⟩ = some (.int .i64 x) ∧ w'.cell? ⟨w4.heap.size, 1, none⟩ = some (.int .i64 v))) (by kernel_rfl) (⟨c0, c1, d0, d1⟩) (fun hHeld => ?_)
     refine wpAnyH_take (i := 0) (v := ?_) rfl (by kernel_rfl) (by kernel_rfl) (by kernel_rfl) (fun _ _ _ h => h) (Or.inl ⟨by rfl, ?_⟩) (by assumption) ?_
     rotate_left
     ·(intro w' hS; (try dsimp only at hS); go_simp; try with_reducible rfl)
     try simp only [Act.put, List.getElem_toArray, List.getElem_cons_succ, List.getElem_cons_zero, List.setIfInBounds_toArray, List.set_cons_zero, List.set_cons_succ]
     refine wpAnyH_take (i := 2) (v := ?_) rfl (by kernel_rfl) (by kernel_rfl) (by kernel_rfl) (fun _ _ _ h => h) (Or.inl ⟨by rfl, ?_⟩) (by assumption) ?_
     rotate_left
     ·(intro w' hS; (try dsimp only at hS); go_simp; try with_reducible rfl)
     try simp only [Act.put, List.getElem_toArray, List.getElem_cons_succ, List.getElem_cons_zero, List.setIfInBounds_toArray, List.set_cons_zero, List.set_cons_succ]
     refine wpAnyH_ready (rs := [1]) (by kernel_rfl) (by simp) ?_
     refine AllReadyH.cons rfl (fun K hK => ?_) AllReadyH.nil
     go_simp
     refine (HI1.out _).mono ?_
     rintro e wx ⟨rfl, hb6⟩
     have hB6 := hB.drew.trans (hb6.mono hB.size)
     have k6 := (show At2 W5.drew _ _ _ from k1).on hb6
     have j6 := (show At2 W5.drew _ _ _ from j1).on hb6
     go_wp2_with fail
     refine hK.out _ _ (⟨k6.c0, k6.c1, j6.c0, j6.c1⟩) (fun hHeld => ?_)
     clear hK K
     try simp only [Act.put, List.getElem_toArray, List.getElem_cons_succ, List.getElem_cons_zero, List.setIfInBounds_toArray, List.set_cons_zero, List.set_cons_succ]
     refine wpAnyH_ready (rs := [3]) (by kernel_rfl) (by simp) ?_
     refine AllReadyH.cons rfl (fun K hK => ?_) AllReadyH.nil
     go_simp
     refine (HI2.out _).mono ?_
     rintro e wx ⟨rfl, hb7⟩
     have hB7 := hB6.trans (hb7.mono hB6.size)
     go_wp2_with fail
     refine hK.out _ _ (⟨(k6.on hb7).c0, (k6.on hb7).c1, (j6.on hb7).c0, (j6.on hb7).c1⟩) (fun hHeld => ?_)
     clear hK K
     try simp only [Act.put, List.getElem_toArray, List.getElem_cons_succ, List.getElem_cons_zero, List.setIfInBounds_toArray, List.set_cons_zero, List.set_cons_succ]
     refine wpAnyH_take (i := 4) (v := ?_) rfl (by kernel_rfl) (by kernel_rfl) (by kernel_rfl) (fun _ _ _ h => h) (Or.inl ⟨by rfl, ?_⟩) (by assumption) ?_
     rotate_left
     ·(intro w' hS; (try dsimp only at hS); go_simp; try with_reducible rfl)
     try simp only [Act.put, List.getElem_toArray, List.getElem_cons_succ, List.getElem_cons_zero, List.setIfInBounds_toArray, List.set_cons_zero, List.set_cons_succ]
     refine wpAnyH_take (i := 5) (v := ?_) rfl (by kernel_rfl) (by kernel_rfl) (by kernel_rfl) (fun _ _ _ h => h) (Or.inl ⟨by rfl, ?_⟩) (by assumption) ?_
     rotate_left
     ·(intro w' hS; (try dsimp only at hS); go_simp; try with_reducible rfl)
     try simp only [Act.put, List.getElem_toArray, List.getElem_cons_succ, List.getElem_cons_zero, List.setIfInBounds_toArray, List.set_cons_zero, List.set_cons_succ]
     refine wpAnyH_done (by kernel_rfl) ?_ _
     refine NoPanic.normal ?_
     go_wp2
     go_ret
     exact HH.out _ _ rfl hB7
    ·clear he
     go_upto_region 6 with fail
     have hlt1 := k1.lt
     have hlt2 := j1.lt
     refine wp_region_noPanic ?_
     refine wp_region_held_drew (S := (fun w' => w'.cell? ⟨w3.heap.size, 0, none⟩ = some (.int .i64 x) ∧ w'.cell? ⟨w3.heap.size, 1, none⟩ = some (.int .i64 y) ∧ w'.cell? ⟨w4.heap.size, 0, none⟩ = some (.int .i64 u) ∧ w'.cell? ⟨w4.heap.size, 1, none⟩ = some (.int .i64 v))) (by kernel_rfl) (⟨c0, c1, d0, d1⟩) (fun hHeld => ?_)
     refine wpAnyH_take (i := 0) (v := ?_) rfl (by kernel_rfl) (by kernel_rfl) (by kernel_rfl) (fun _ _ _ h => h) (Or.inl ⟨by rfl, ?_⟩) (by assumption) ?_
     rotate_left
     ·(intro w' hS; (try dsimp only at hS); go_simp; try with_reducible rfl)
     try simp only [Act.put, List.getElem_toArray, List.getElem_cons_succ, List.getElem_cons_zero, List.setIfInBounds_toArray, List.set_cons_zero, List.set_cons_succ]
     refine wpAnyH_take (i := 2) (v := ?_) rfl (by kernel_rfl) (by kernel_rfl) (by kernel_rfl) (fun _ _ _ h => h) (Or.inl ⟨by rfl, ?_⟩) (by assumption) ?_
     rotate_left
     ·(intro w' hS; (try dsimp only at hS); go_simp; try with_reducible rfl)
     try simp only [Act.put, List.getElem_toArray, List.getElem_cons_succ, List.getElem_cons_zero, List.setIfInBounds_toArray, List.set_cons_zero, List.set_cons_succ]
     refine wpAnyH_ready (rs := [1]) (by kernel_rfl) (by simp) ?_
     refine AllReadyH.cons rfl (fun K hK => ?_) AllReadyH.nil
     go_simp
     refine (HI1.out _).mono ?_
     rintro e wx ⟨rfl, hb6⟩
     have hB6 := hB.drew.trans (hb6.mono hB.size)
     have k6 := (show At2 W5.drew _ _ _ from k1).on hb6
     have j6 := (show At2 W5.drew _ _ _ from j1).on hb6
     go_wp2_with fail
     refine hK.out _ _ (⟨k6.c0, k6.c1, j6.c0, j6.c1⟩) (fun hHeld => ?_)
     clear hK K
     try simp only [Act.put, List.getElem_toArray, List.getElem_cons_succ, List.getElem_cons_zero, List.setIfInBounds_toArray, List.set_cons_zero, List.set_cons_succ]
     refine wpAnyH_ready (rs := [3]) (by kernel_rfl) (by simp) ?_
     refine AllReadyH.cons rfl (fun K hK => ?_) AllReadyH.nil
     go_simp
     refine (HI2.out _).mono ?_
     rintro e wx ⟨rfl, hb7⟩
     have hB7 := hB6.trans (hb7.mono hB6.size)
     go_wp2_with fail
     refine hK.out _ _ (⟨(k6.on hb7).c0, (k6.on hb7).c1, (j6.on hb7).c0, (j6.on hb7).c1⟩) (fun hHeld => ?_)
     clear hK K
     try simp only [Act.put, List.getElem_toArray, List.getElem_cons_succ, List.getElem_cons_zero, List.setIfInBounds_toArray, List.set_cons_zero, List.set_cons_succ]
     refine wpAnyH_take (i := 4) (v := ?_) rfl (by kernel_rfl) (by kernel_rfl) (by kernel_rfl) (fun _ _ _ h => h) (Or.inl ⟨by rfl, ?_⟩) (by assumption) ?_
     rotate_left
     ·(intro w' hS; (try dsimp only at hS); go_simp; try with_reducible rfl)
     try simp only [Act.put, List.getElem_toArray, List.getElem_cons_succ, List.getElem_cons_zero, List.setIfInBounds_toArray, List.set_cons_zero, List.set_cons_succ]
     refine wpAnyH_take (i := 5) (v := ?_) rfl (by kernel_rfl) (by kernel_rfl) (by kernel_rfl) (fun _ _ _ h => h) (Or.inl ⟨by rfl, ?_⟩) (by assumption) ?_
     rotate_left
     ·(intro w' hS; (try dsimp only at hS); go_simp; try with_reducible rfl)
     try simp only [Act.put, List.getElem_toArray, List.getElem_cons_succ, List.getElem_cons_zero, List.setIfInBounds_toArray, List.set_cons_zero, List.set_cons_succ]
     refine wpAnyH_done (by kernel_rfl) ?_ _
     refine NoPanic.normal ?_
     go_wp2
     go_ret
     exact HH.out _ _ rfl hB7
end Go.Proofs.YtieophdbhnpncaaGreat.Dom

namespace Go.Proofs.YtieophdbhnpncaaGreat.Dom
set_option linter.unusedVariables false
set_option linter.unusedSimpArgs false
open Go.RowKit Go.Proofs.YtieophdbhnpncaaGreat.Cell Go.Proofs.YtieophdbhnpncaaGreat.CellF Go.Proofs.YtieophdbhnpncaaGreat.CellN Go.Joins

def mn (a b : Int) : Int := if b < a then b else a
theorem nb_dom {x y u v : Int} (h : nbB x y u v = true) : Ok x y ∧ Ok u v ∧ ((indexN u v < indexN x y ∧ mn x u = u ∧ mn y v = v) ∨ (¬ indexN u v < indexN x y ∧ mn x u = x ∧ mn y v = y)) := by
 obtain ⟨h1, h2, h3⟩ := nbB_iff.1 h
 refine ⟨h1, h2, ?_⟩
 rw [index_of h1, index_of h2]
 obtain ⟨x0, x7, y0, y7⟩ := h1
 obtain ⟨u0, u7, v0, v7⟩ := h2
 unfold mn
 rcases h3 with ⟨rfl, rfl | rfl⟩ | ⟨rfl, rfl | rfl⟩
 ·left; refine ⟨by omega, by simp, by rw [if_pos (by omega)]⟩
 ·right; refine ⟨by omega, by simp, by rw [if_neg (by omega)]⟩
 ·left; refine ⟨by omega, by rw [if_pos (by omega)], by simp⟩
 ·right; refine ⟨by omega, by rw [if_neg (by omega)], by simp⟩

def Ov (w : World) (x y u v : Int) (p q : Int) (b : Bool) (W : World) : Prop :=
 Below w.heap.size w W ∧ At2 W w.heap.size x y ∧ At2 W (w.heap.size + 1) u v ∧ At3 67 W (w.heap.size + 1 + 1) p q b
theorem ov_start (x y u v : Int) (w : World) : Ov w x y u v 0 0 false (((w.alloc (.cells #[.int .i64 x, .int .i64 y] 38)).alloc (.cells #[.int .i64 u, .int .i64 v] 38)).alloc (.cells #[.int .i64 0, .int .i64 0, .bool false] 67)) := by
 obtain ⟨k1, k2, k3⟩ := at2_two w x y u v
 have e2 : ((w.alloc (.cells #[.int .i64 x, .int .i64 y] 38)).alloc (.cells #[.int .i64 u, .int .i64 v] 38)).heap.size = w.heap.size + 1 + 1 := by simp
 generalize (w.alloc (.cells #[.int .i64 x, .int .i64 y] 38)).alloc (.cells #[.int .i64 u, .int .i64 v] 38) = W at k1 k2 k3 e2 ⊢
 have k4 := At3.new 67 W 0 0 false
 rw [e2] at k4
 exact ⟨k3.trans ((below_alloc1 W _).mono k3.size), k1.on (below_alloc1 _ _), k2.on (below_alloc1 _ _), k4⟩
theorem At3.f0 {T : TypeId} {W : World} {q : Nat} {x y : Int} {b : Bool} (h : At3 T W q x y b) : W.frozen? ⟨q, 0, none⟩ = false := by have h' := h; unfold At3 at h'; simp [World.frozen?, h']
theorem At3.f1 {T : TypeId} {W : World} {q : Nat} {x y : Int} {b : Bool} (h : At3 T W q x y b) : W.frozen? ⟨q, 1, none⟩ = false := by have h' := h; unfold At3 at h'; simp [World.frozen?, h']
theorem At3.f2 {T : TypeId} {W : World} {q : Nat} {x y : Int} {b : Bool} (h : At3 T W q x y b) : W.frozen? ⟨q, 2, none⟩ = false := by have h' := h; unfold At3 at h'; simp [World.frozen?, h']
theorem At3.put {T : TypeId} {W : World} {q : Nat} {x y a c : Int} {b d : Bool} (h : At3 T W q x y b) : At3 T (((W.setCell ⟨q, 0, none⟩ (.int .i64 a)).setCell ⟨q, 1, none⟩ (.int .i64 c)).setCell ⟨q, 2, none⟩ (.bool d)) q a c d := by
 have h' := h
 unfold At3 at h' ⊢
 simp [World.setCell, Array.getElem?_modify, h']
section
variable {w W W' : World} {x y u v p q : Int} {b : Bool}
theorem Ov.drew (h : Ov w x y u v p q b W) : Ov w x y u v p q b W.drew := ⟨h.1.drew, h.2⟩
theorem Ov.on (h : Ov w x y u v p q b W) (hb : Below W.heap.size W W') : Ov w x y u v p q b W' := ⟨h.1.trans (hb.mono h.1.size), h.2.1.on hb, h.2.2.1.on hb, h.2.2.2.on hb⟩
theorem Ov.put (h : Ov w x y u v p q b W) (a c : Int) (d : Bool) : Ov w x y u v a c d (((W.setCell ⟨w.heap.size + 1 + 1, 0, none⟩ (.int .i64 a)).setCell ⟨w.heap.size + 1 + 1, 1, none⟩ (.int .i64 c)).setCell ⟨w.heap.size + 1 + 1, 2, none⟩ (.bool d)) :=
 ⟨((h.1.setCell (p := ⟨w.heap.size + 1 + 1, 0, none⟩) (by show w.heap.size ≤ w.heap.size + 1 + 1; omega) _).setCell (p := ⟨w.heap.size + 1 + 1, 1, none⟩) (by show w.heap.size ≤ w.heap.size + 1 + 1; omega) _).setCell (p := ⟨w.heap.size + 1 + 1, 2, none⟩) (by show w.heap.size ≤ w.heap.size + 1 + 1; omega) _, (h.2.1.far2 (by omega)).far (by omega), (h.2.2.1.far2 (by omega)).far (by omega), h.2.2.2.put⟩
theorem Ov.putFar (h : Ov w x y u v p q b W) {k : Nat} (hk : w.heap.size + 3 ≤ k) (a c : Int) : Ov w x y u v p q b ((W.setCell ⟨k, 0, none⟩ (.int .i64 a)).setCell ⟨k, 1, none⟩ (.int .i64 c)) :=
 ⟨(h.1.setCell (p := ⟨k, 0, none⟩) (by show w.heap.size ≤ k; omega) _).setCell (p := ⟨k, 1, none⟩) (by show w.heap.size ≤ k; omega) _, h.2.1.far2 (by omega), h.2.2.1.far2 (by omega), (h.2.2.2.far (by omega)).far (by omega)⟩
end

set_option maxHeartbeats 400000 in
theorem sDominoOver_no (x y u v : Int) (hn : nbB x y u v = false) (w : World) :
  Calls Tryz.prog 48 #[.agg #[.int .i64 x, .int .i64 y], .agg #[.int .i64 u, .int .i64 v]] w (DoB 0 0 false false w) := by
 have HO := Lib.hid (fun W => hn ▸ sAreNeighbors x y u v W)
 have T0 := Lib.hid (ov_start x y u v w)
 clear hn
 go_enter Tryz.func48, Tryz.ntmps48
 go_wp2_with fail
 refine (HO.out _).mono ?_
 rintro e w1 ⟨rfl, hb1⟩
 have T1 := T0.out.on hb1
 have T2 := T1.put 0 0 false
 have c0 := T1.2.2.2.c0
 have c1 := T1.2.2.2.c1
 have c2 := T1.2.2.2.c2
 have c3 := T1.2.2.2.f0
 have c4 := T1.2.2.2.f1
 have c5 := T1.2.2.2.f2
 clear T0 T1 hb1 HO
 go_wp2
 have r0 := T2.2.2.2.c0
 have r1 := T2.2.2.2.c1
 have r2 := T2.2.2.2.c2
 refine bodyPost_ret (v := .tuple #[.agg #[.int .i64 0, .int .i64 0, .bool false], .bool false]) ?_ rfl (mkDoB rfl rfl rfl rfl T2.1)
 simp [results, Tryz.results48, go_sem, r0, r1, r2]

set_option maxHeartbeats 1000000 in
theorem iDominoOver_ok (x y u v : Int) (hn : nbB x y u v = true) (w : World) :
  Calls Tryz.prog 67 #[.agg #[.int .i64 x, .int .i64 y], .agg #[.int .i64 u, .int .i64 v]] w (DoB (mn x u) (mn y v) (decide (x = u)) true w) := by
 have HO := Lib.hid (fun W => hn ▸ iAreNeighbors x y u v W)
 have T0 := Lib.hid (ov_start x y u v w)
 have HD := Lib.hid (nb_dom hn).2.2
 have HI1 := Lib.hid (fun W => iCellIndex x y W)
 have HI2 := Lib.hid (fun W => iCellIndex u v W)
 generalize indexN x y = i1 at HI1 HD
 generalize indexN u v = i2 at HI2 HD
 generalize mn x u = mx at HD ⊢
 generalize mn y v = my at HD ⊢
 clear hn
 go_enter Tryz.func67, Tryz.ntmps67
 go_wp2_with fail
 refine (HO.out _).mono ?_
 rintro e w1 ⟨rfl, hb1⟩
 have T1 := T0.out.on hb1
 have a0 := T1.2.1.c0
 have a1 := T1.2.1.c1
 clear T0 hb1 HO
 go_upto_region 4 with fail
 have k1 := At2.new w1 x y
 have hlt := T1.2.2.2.lt
 have T2 := T1.on (below_alloc1 w1 (.cells #[.int .i64 x, .int .i64 y] 38))
 clear T1 a0 a1
 generalize w1.alloc (.cells #[.int .i64 x, .int .i64 y] 38) = W at k1 T2 ⊢
 refine wp_region_noPanic ?_
 refine wp_region_held_drew (S := (fun w' => w'.cell? ⟨w.heap.size, 0, none⟩ = some (.int .i64 x) ∧ w'.cell? ⟨w.heap.size, 1, none⟩ = some (.int .i64 y) ∧ w'.cell? ⟨w.heap.size + 1, 0, none⟩ = some (.int .i64 u) ∧ w'.cell? ⟨w.heap.size + 1, 1, none⟩ = some (.int .i64 v))) (by kernel_rfl) (⟨T2.2.1.c0, T2.2.1.c1, T2.2.2.1.c0, T2.2.2.1.c1⟩) (fun hHeld => ?_)
 refine wpAnyH_take (i := 0) (v := ?_) rfl (by kernel_rfl) (by kernel_rfl) (by kernel_rfl) (fun _ _ _ h => h) (Or.inl ⟨by rfl, ?_⟩) (by assumption) ?_
 rotate_left
 ·(intro w' hS; (try dsimp only at hS); go_simp; try with_reducible rfl)
 try simp only [Act.put, List.getElem_toArray, List.getElem_cons_succ, List.getElem_cons_zero, List.setIfInBounds_toArray, List.set_cons_zero, List.set_cons_succ]
 refine wpAnyH_take (i := 2) (v := ?_) rfl (by kernel_rfl) (by kernel_rfl) (by kernel_rfl) (fun _ _ _ h => h) (Or.inl ⟨by rfl, ?_⟩) (by assumption) ?_
 rotate_left
 ·(intro w' hS; (try dsimp only at hS); go_simp; try with_reducible rfl)
 try simp only [Act.put, List.getElem_toArray, List.getElem_cons_succ, List.getElem_cons_zero, List.setIfInBounds_toArray, List.set_cons_zero, List.set_cons_succ]
 refine wpAnyH_ready (rs := [1]) (by kernel_rfl) (by simp) ?_
 refine AllReadyH.cons rfl (fun K hK => ?_) AllReadyH.nil
 go_simp
 refine (HI2.out _).mono ?_
 rintro e wx ⟨rfl, hb6⟩
 have T3 := T2.drew.on hb6
 have k3 := (show At2 W.drew _ _ _ from k1).on hb6
 go_wp2_with fail
 refine hK.out _ _ (⟨T3.2.1.c0, T3.2.1.c1, T3.2.2.1.c0, T3.2.2.1.c1⟩) (fun hHeld => ?_)
 clear hK K
 try simp only [Act.put, List.getElem_toArray, List.getElem_cons_succ, List.getElem_cons_zero, List.setIfInBounds_toArray, List.set_cons_zero, List.set_cons_succ]
 refine wpAnyH_ready (rs := [3]) (by kernel_rfl) (by simp) ?_
 refine AllReadyH.cons rfl (fun K hK => ?_) AllReadyH.nil
 go_simp
 refine (HI1.out _).mono ?_
 rintro e wx ⟨rfl, hb7⟩
 have T4 := T3.on hb7
 have k4 := k3.on hb7
 clear T2 T3 k3 k1 hb6 hb7 HI1 HI2
 go_wp2_with fail
 refine hK.out _ _ (⟨T4.2.1.c0, T4.2.1.c1, T4.2.2.1.c0, T4.2.2.1.c1⟩) (fun hHeld => ?_)
 clear hK K
 try simp only [Act.put, List.getElem_toArray, List.getElem_cons_succ, List.getElem_cons_zero, List.setIfInBounds_toArray, List.set_cons_zero, List.set_cons_succ]
 refine wpAnyH_take (i := 4) (v := ?_) rfl (by kernel_rfl) (by kernel_rfl) (by kernel_rfl) (fun _ _ _ h => h) (Or.inl ⟨by rfl, ?_⟩) (by assumption) ?_
 rotate_left
 ·(intro w' hS; (try dsimp only at hS); go_simp; try with_reducible rfl)
 try simp only [Act.put, List.getElem_toArray, List.getElem_cons_succ, List.getElem_cons_zero, List.setIfInBounds_toArray, List.set_cons_zero, List.set_cons_succ]
 refine wpAnyH_done (by kernel_rfl) ?_ _
 refine NoPanic.normal ?_
 have a0 := T4.2.1.c0
 have a1 := T4.2.1.c1
 have a2 := T4.2.2.1.c0
 have a3 := T4.2.2.1.c1
 by_cases hlt2 : i2 < i1
 ·obtain ⟨rfl, rfl⟩ : mx = u ∧ my = v := by
   have := HD.out
   exact ⟨by omega, by omega⟩
  have f0 := k4.c0
  have f1 := k4.c1
  have f2 := k4.f0
  have f3 := k4.f1
  clear HD
  go_upto_region 6 with fail
  have T5 := T4.putFar (k := w1.heap.size) (by omega) mx my
  have k5 := k4.put (a := mx) (b := my)
  clear T4 k4 a0 a1 a2 a3 f0 f1 f2 f3
  generalize (World.setCell wx ⟨w1.heap.size, 0, none⟩ _).setCell ⟨w1.heap.size, 1, none⟩ _ = W5 at T5 k5 ⊢
  have T6 := T5.put mx my (x == mx)
  have a0 := T5.2.1.c0
  have a1 := T5.2.1.c1
  have a2 := T5.2.2.1.c0
  have a3 := T5.2.2.1.c1
  have f0 := k5.c0
  have f1 := k5.c1
  have c0 := T5.2.2.2.c0
  have c1 := T5.2.2.2.c1
  have c2 := T5.2.2.2.c2
  have c3 := T5.2.2.2.f0
  have c4 := T5.2.2.2.f1
  have c5 := T5.2.2.2.f2
  have r0 := T6.2.2.2.c0
  have r1 := T6.2.2.2.c1
  have r2 := T6.2.2.2.c2
  have hb := T6.1
  clear T5 T6 k5
  go_wp2
  refine bodyPost_ret (v := .tuple #[.agg #[.int .i64 mx, .int .i64 my, .bool (x == mx)], .bool true]) ?_ rfl (mkDoB rfl rfl (by rw [Bool.eq_iff_iff]; simp) rfl hb)
  simp [results, Tryz.results67, go_sem, r0, r1, r2]
 ·obtain ⟨rfl, rfl⟩ : mx = x ∧ my = y := by
   have := HD.out
   exact ⟨by omega, by omega⟩
  clear HD
  go_upto_region 6 with fail
  have T5 := T4
  have k5 := k4
  clear T4 k4 a0 a1 a2 a3
  have T6 := T5.put mx my (mx == u)
  have a0 := T5.2.1.c0
  have a1 := T5.2.1.c1
  have a2 := T5.2.2.1.c0
  have a3 := T5.2.2.1.c1
  have f0 := k5.c0
  have f1 := k5.c1
  have c0 := T5.2.2.2.c0
  have c1 := T5.2.2.2.c1
  have c2 := T5.2.2.2.c2
  have c3 := T5.2.2.2.f0
  have c4 := T5.2.2.2.f1
  have c5 := T5.2.2.2.f2
  have r0 := T6.2.2.2.c0
  have r1 := T6.2.2.2.c1
  have r2 := T6.2.2.2.c2
  have hb := T6.1
  clear T5 T6 k5
  go_wp2
  refine bodyPost_ret (v := .tuple #[.agg #[.int .i64 mx, .int .i64 my, .bool (mx == u)], .bool true]) ?_ rfl (mkDoB rfl rfl (by rw [Bool.eq_iff_iff]; simp) rfl hb)
  simp [results, Tryz.results67, go_sem, r0, r1, r2]
end Go.Proofs.YtieophdbhnpncaaGreat.Dom

namespace Go.Proofs.YtieophdbhnpncaaGreat.Dms
set_option linter.unusedVariables false
set_option linter.unusedSimpArgs false
open Go.RowKit Go.Proofs.YtieophdbhnpncaaGreat.Base Go.Proofs.YtieophdbhnpncaaGreat.Dom Go.Joins Go.ChangeShapes Go.WideShapes Go.Deep

abbrev Dm := Int × Int × Bool
def rowM (L : List Dm) : List Value := L.flatMap fun d => [.int .i64 d.1, .int .i64 d.2.1, .bool d.2.2]
theorem rowM_cons (d : Dm) (L : List Dm) : rowM (d :: L) = .int .i64 d.1 :: .int .i64 d.2.1 :: .bool d.2.2 :: rowM L := rfl
theorem rowM_app (L M : List Dm) : rowM (L ++ M) = rowM L ++ rowM M := by unfold rowM; simp
theorem rowM_snoc (L : List Dm) (d : Dm) : rowM (L ++ [d]) = rowM L ++ [.int .i64 d.1, .int .i64 d.2.1, .bool d.2.2] := by rw [rowM_app]; rfl
theorem rowM_length (L : List Dm) : (rowM L).length = L.length * 3 := by
 induction L with
 | nil => rfl
 | cons d L ih => rw [rowM_cons]; simp only [List.length_cons, ih]; omega
theorem rowM_at (L : List Dm) : ∀ (j : Nat) (d : Dm), L[j]? = some d → (rowM L)[j * 3]? = some (.int .i64 d.1) ∧ (rowM L)[j * 3 + 1]? = some (.int .i64 d.2.1) ∧ (rowM L)[j * 3 + 2]? = some (.bool d.2.2) := by
 induction L with
 | nil => intro j d h; simp at h
 | cons q L ih =>
  intro j d h
  rw [rowM_cons]
  cases j with
  | zero => simp at h; subst h; exact ⟨rfl, rfl, rfl⟩
  | succ j =>
   have h' : L[j]? = some d := by simpa using h
   rw [show (j + 1) * 3 = j * 3 + 1 + 1 + 1 from by omega, show j * 3 + 1 + 1 + 1 + 1 = j * 3 + 1 + 1 + 1 + 1 from rfl]
   obtain ⟨a, b, c⟩ := ih j d h'
   exact ⟨by simpa using a, by simpa using b, by simpa using c⟩
theorem rowM_put (L : List Dm) (p q : Dm) (M : List Dm) (j : Nat) (hj : L.length = j) :
  (((rowM (L ++ p :: M)).set (j * 3) (.int .i64 q.1)).set (j * 3 + 1) (.int .i64 q.2.1)).set (j * 3 + 2) (.bool q.2.2) = rowM (L ++ q :: M) := by
 have hl : (rowM L).length = j * 3 := by rw [rowM_length, hj]
 rw [rowM_app, rowM_app, List.set_append_right _ _ (by omega), List.set_append_right _ _ (by omega), List.set_append_right _ _ (by omega), hl, Nat.sub_self, show j * 3 + 1 - j * 3 = 1 from by omega, show j * 3 + 2 - j * 3 = 2 from by omega]
 rfl
def RowM (w : World) (B : Nat) (A : Option Addr) (L : List Dm) : Prop :=
 ∃ b off : Nat, (0 < L.length → A = some ⟨b, off, none⟩ ∧ b < B) ∧ ∀ j d, L[j]? = some d →
  w.cell? ⟨b, off + j * 3, none⟩ = some (.int .i64 d.1) ∧ w.cell? ⟨b, off + j * 3 + 1, none⟩ = some (.int .i64 d.2.1) ∧ w.cell? ⟨b, off + j * 3 + 2, none⟩ = some (.bool d.2.2)
theorem RowM.mono {w : World} {B B' : Nat} {A : Option Addr} {L : List Dm} (h : RowM w B A L) (hB : B ≤ B') : RowM w B' A L := by
 obtain ⟨b, off, h1, h2⟩ := h
 exact ⟨b, off, fun k => ⟨(h1 k).1, by have := (h1 k).2; omega⟩, h2⟩
theorem some_pos {α : Type} {L : List α} {j : Nat} {d : α} (h : L[j]? = some d) : 0 < L.length := by have := (List.getElem?_eq_some_iff.1 h).1; omega
theorem RowM.below {w w' : World} {B B' : Nat} {A : Option Addr} {L : List Dm} (h : RowM w B A L) (hb : Below B' w w') (hB : B ≤ B') : RowM w' B A L := by
 obtain ⟨b, off, h1, h2⟩ := h
 refine ⟨b, off, h1, fun j d hd => ?_⟩
 have hlt : b < B' := by have := (h1 (some_pos hd)).2; omega
 rw [hb.cell (p := ⟨b, off + j * 3, none⟩) hlt, hb.cell (p := ⟨b, off + j * 3 + 1, none⟩) hlt, hb.cell (p := ⟨b, off + j * 3 + 2, none⟩) hlt]
 exact h2 j d hd
theorem RowM.drew {w : World} {B : Nat} {A : Option Addr} {L : List Dm} (h : RowM w B A L) : RowM w.drew B A L := h
theorem rowM_own {w : World} {base e n cap : Nat} {A : Option Addr} {L : List Dm} (h : w.ownsRow base e 3 (.slice A n cap) n (rowM L)) : RowM w w.heap.size A L := by
 have hn : L.length = n := by have := h.1; rw [rowM_length] at this; omega
 by_cases h0 : L.length = 0
 ·have : L = [] := List.eq_nil_of_length_eq_zero h0
  subst this
  exact ⟨0, 0, fun h => by simp at h, fun j u hu => by simp at hu⟩
 ·obtain ⟨g, c, hv, _, hlt⟩ := h.form (by omega)
  injection hv with hA
  subst hA
  refine ⟨g, 0, fun _ => ⟨rfl, hlt⟩, fun j d hd => ?_⟩
  obtain ⟨h1, h2, h3⟩ := rowM_at L j d hd
  have c1 := h.cells (g := g) rfl _ _ h1
  have c2 := h.cells (g := g) rfl _ _ h2
  have c3 := h.cells (g := g) rfl _ _ h3
  rw [Base.add_plain] at c1 c2 c3
  simp only [Nat.zero_add]
  exact ⟨c1, c2, c3⟩
theorem RowM.at {w : World} {B : Nat} {A : Option Addr} {L : List Dm} (h : RowM w B A L) : ∃ b off : Nat, (0 < L.length → A = some ⟨b, off, none⟩ ∧ b < B) ∧ ∀ j, (hj : j < L.length) →
  w.cell? ⟨b, off + j * 3, none⟩ = some (.int .i64 L[j].1) ∧ w.cell? ⟨b, off + j * 3 + 1, none⟩ = some (.int .i64 L[j].2.1) ∧ w.cell? ⟨b, off + j * 3 + 2, none⟩ = some (.bool L[j].2.2) := by
 obtain ⟨b, off, h1, h2⟩ := h
 exact ⟨b, off, h1, fun j hj => h2 j _ (List.getElem?_eq_getElem hj)⟩
def Fits (L : List Dm) : Prop := ∀ d ∈ L, Sm d.1 ∧ Sm d.2.1

theorem add_none (b o j : Nat) : (⟨b, o, none⟩ : Addr).add j = ⟨b, o + j, none⟩ := by unfold Addr.add; split <;> simp_all
end Go.Proofs.YtieophdbhnpncaaGreat.Dms
