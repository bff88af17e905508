/- DomH, DomO, DomL in one text. -/
import Derived.Test.YtmajllgfmclcoaaMb02

namespace Go.Proofs.Ytmajllgfmclcoaa.Dom
set_option linter.unusedVariables false
set_option linter.unusedSimpArgs false
open Go.RowKit Go.Proofs.Ytmajllgfmclcoaa.Cell Go.Proofs.Ytmajllgfmclcoaa.CellF Go.Joins

def befP (x y : Int) (b : Bool) (u v : Int) (c : Bool) : Bool := decide (y * 8 + x < v * 8 + u ∨ (y * 8 + x = v * 8 + u ∧ b = false ∧ c = true))
theorem befP_iff {x y : Int} {b : Bool} {u v : Int} {c : Bool} : befP x y b u v c = true ↔ (y * 8 + x < v * 8 + u ∨ (y * 8 + x = v * 8 + u ∧ b = false ∧ c = true)) := by unfold befP; simp
def befB (x y : Int) (b : Bool) (u v : Int) (c : Bool) : Bool := domB x y b && domB u v c && befP x y b u v c
theorem dom_ok {x y : Int} {b : Bool} (h : domB x y b = true) : Ok x y := by
 unfold domB at h
 simp only [Bool.and_eq_true] at h
 exact okB_iff.1 h.1
theorem index_of {x y : Int} (h : Ok x y) : indexN x y = y * 8 + x := by unfold indexN; simp [h]

set_option maxHeartbeats 1000000 in
theorem sIsBefore (x y : Int) (b : Bool) (u v : Int) (c : Bool) (w : World) :
  Calls Try.prog 55 #[.agg #[.int .i64 x, .int .i64 y, .bool b], .agg #[.int .i64 u, .int .i64 v, .bool c]] w (Bol (befB x y b u v c) w) := by
 have HO1 := Lib.hid (fun W => sDominoOk x y b W)
 have HO2 := Lib.hid (fun W => sDominoOk u v c W)
 have HB := Lib.hid (show befB x y b u v c = (domB x y b && domB u v c && befP x y b u v c) from rfl)
 have HK1 := Lib.hid (fun (h : domB x y b = true) => dom_ok h)
 have HK2 := Lib.hid (fun (h : domB u v c = true) => dom_ok h)
 generalize befB x y b u v c = r at HB ⊢
 generalize domB x y b = p at HO1 HB HK1
 generalize domB u v c = q at HO2 HB HK2
 go_enter Try.func55, Try.ntmps55
 go_wp2_with fail
 refine (HO1.out _).mono ?_
 rintro e w1 ⟨rfl, hb1⟩
 obtain ⟨hb, K1, K2⟩ := bx33 x y b u v c w w1 hb1
 have c0 := K1.c0
 have c1 := K1.c1
 have c2 := K1.c2
 have d0 := K2.c0
 have d1 := K2.c1
 have d2 := K2.c2
 clear hb1 HO1
 cases p with
 | false =>
  go_wp2
  go_ret
  exact mkBol (by rw [HB.out]; rfl) hb
 | true =>
  go_wp2_with fail
  refine (HO2.out _).mono ?_
  rintro e w2 ⟨rfl, hb2⟩
  have hb' := hb.trans (hb2.mono hb.size)
  have K1 := K1.on hb2
  have K2 := K2.on hb2
  clear hb hb2 c0 c1 c2 d0 d1 d2 HO2
  have c0 := K1.c0
  have c1 := K1.c1
  have c2 := K1.c2
  have d0 := K2.c0
  have d1 := K2.c1
  have d2 := K2.c2
  clear K1 K2
  cases q with
  | false =>
   go_wp2
   go_ret
   exact mkBol (by rw [HB.out]; rfl) hb'
  | true =>
   obtain ⟨x0, x7, y0, y7⟩ := HK1.out (by trivial)
   obtain ⟨u0, u7, v0, v7⟩ := HK2.out (by trivial)
   have HH := Lib.hid (fun z (h : z = true ↔ (y * 8 + x < v * 8 + u ∨ (y * 8 + x = v * 8 + u ∧ b = false ∧ c = true))) => mkBol (v := z) (b := r) (by rw [Bool.eq_iff_iff, h, HB.out, Bool.true_and, Bool.true_and, befP_iff]) hb')
   clear HB HK1 HK2 hb'
   go_wp2
   all_goals
    go_ret
    refine HH.out _ ?_
    cases b <;> cases c <;> first | contradiction | (simp; done) | (simp; omega) | omega

set_option maxHeartbeats 1000000 in
theorem iIsBefore (x y : Int) (b : Bool) (u v : Int) (c : Bool) (hx : Sm x) (hy : Sm y) (hu : Sm u) (hv : Sm v) (w : World) :
  Calls Try.prog 87 #[.agg #[.int .i64 x, .int .i64 y, .bool b], .agg #[.int .i64 u, .int .i64 v, .bool c]] w (Bol (befB x y b u v c) w) := by
 have HO1 := Lib.hid (fun W => iDominoOk x y b hx hy W)
 have HO2 := Lib.hid (fun W => iDominoOk u v c hu hv W)
 have HC1 := Lib.hid (fun W => iCells x y b hx hy W)
 have HC2 := Lib.hid (fun W => iCells u v c hu hv W)
 have HB := Lib.hid (show befB x y b u v c = (domB x y b && domB u v c && befP x y b u v c) from rfl)
 have HK1 := Lib.hid (fun (h : domB x y b = true) => dom_ok h)
 have HK2 := Lib.hid (fun (h : domB u v c = true) => dom_ok h)
 generalize befB x y b u v c = r at HB ⊢
 generalize sx x b = m at HC1
 generalize sy y b = n at HC1
 generalize sx u c = s at HC2
 generalize sy v c = t at HC2
 generalize domB x y b = p at HO1 HB HK1
 generalize domB u v c = q at HO2 HB HK2
 clear hx hy hu hv
 go_enter Try.func87, Try.ntmps87
 go_wp2_with fail
 refine (HO1.out _).mono ?_
 rintro e w1 ⟨rfl, hb1⟩
 obtain ⟨hb, K1, K2⟩ := bx33 x y b u v c w w1 hb1
 have c0 := K1.c0
 have c1 := K1.c1
 have c2 := K1.c2
 have d0 := K2.c0
 have d1 := K2.c1
 have d2 := K2.c2
 clear hb1 HO1
 cases p with
 | false =>
  go_wp2
  go_ret
  exact mkBol (by rw [HB.out]; rfl) hb
 | true =>
  go_wp2_with fail
  refine (HO2.out _).mono ?_
  rintro e w2 ⟨rfl, hb2⟩
  have hb' := hb.trans (hb2.mono hb.size)
  have K1 := K1.on hb2
  have K2 := K2.on hb2
  clear hb hb2 c0 c1 c2 d0 d1 d2 HO2
  have c0 := K1.c0
  have c1 := K1.c1
  have c2 := K1.c2
  cases q with
  | false =>
   go_wp2
   go_ret
   exact mkBol (by rw [HB.out]; rfl) hb'
  | true =>
   have HN1 := Lib.hid (index_of (HK1.out (by trivial)))
   have HN2 := Lib.hid (index_of (HK2.out (by trivial)))
   go_wp2_with fail
   refine (HC1.out _).mono ?_
   rintro e w3 ⟨rfl, hb3⟩
   have hB := hb'.trans (hb3.mono hb'.size)
   have K1 := K1.on hb3
   have K2 := K2.on hb3
   clear hb' hb3 c0 c1 c2 HC1
   go_upto_region 4 with fail
   obtain ⟨k1, k2, k3⟩ := at2_two w3 x y m n
   have hB := hB.trans (k3.mono hB.size)
   have K1 := K1.on k3
   have K2 := K2.on k3
   generalize (w3.alloc (.cells #[.int .i64 x, .int .i64 y] 56)).alloc (.cells #[.int .i64 m, .int .i64 n] 56) = W at k1 k2 K1 K2 hB ⊢
   have d0 := K2.c0
   have d1 := K2.c1
   have d2 := K2.c2
   clear k2 k3
   go_wp2_with fail
   refine (HC2.out _).mono ?_
   rintro e w4 ⟨rfl, hb4⟩
   have hB := hB.trans (hb4.mono hB.size)
   have k1 := k1.on hb4
   have K1 := K1.on hb4
   have K2 := K2.on hb4
   clear d0 d1 d2 hb4 HC2
   go_upto_region 5 with fail
   obtain ⟨j1, j2, j3⟩ := at2_two w4 u v s t
   have hB := hB.trans (j3.mono hB.size)
   have k1 := k1.on j3
   have K1 := K1.on j3
   have K2 := K2.on j3
   generalize (w4.alloc (.cells #[.int .i64 u, .int .i64 v] 56)).alloc (.cells #[.int .i64 s, .int .i64 t] 56) = W5 at k1 K1 K2 j1 j2 hB ⊢
   clear j2 j3
   have c0 := k1.c0
   have c1 := k1.c1
   have d0 := j1.c0
   have d1 := j1.c1
   by_cases he : x = u ∧ y = v
   ·obtain ⟨rfl, rfl⟩ := he
    have e0 := K1.c0
    have e1 := K1.c1
    have e2 := K1.c2
    have f0 := K2.c0
    have f1 := K2.c1
    have f2 := K2.c2
    have HH := Lib.hid (fun z (h : z = (!b && c)) => mkBol (v := z) (b := r) (by rw [Bool.eq_iff_iff, h, HB.out, Bool.true_and, Bool.true_and, befP_iff]; simp) hB)
    clear HB hB K1 K2 k1 j1 HN1 HN2 HK1 HK2
    cases b <;> cases c
    all_goals
     go_wp2
     go_ret
     exact HH.out _ rfl
   ·have HH := Lib.hid (fun W' z (h : z = decide (indexN x y < indexN u v)) (hb : Below w.heap.size w W') => mkBol (v := z) (b := r) (W := W') (by
     obtain ⟨x0, x7, y0, y7⟩ := HK1.out (by trivial)
     obtain ⟨u0, u7, v0, v7⟩ := HK2.out (by trivial)
     rw [Bool.eq_iff_iff, h, HB.out, Bool.true_and, Bool.true_and, befP_iff, HN1.out, HN2.out]; simp; omega) hb)
    have HI1 := Lib.hid (fun W => iCellIndex x y W)
    have HI2 := Lib.hid (fun W => iCellIndex u v W)
    generalize indexN x y = i1 at HI1 HH
    generalize indexN u v = i2 at HI2 HH
    clear HB K1 K2 HN1 HN2 HK1 HK2
    by_cases hxu : x = u
    ·subst hxu
     have hyv : ¬ y = v := fun h => he ⟨rfl, h⟩
     clear he
     go_upto_region 6 with fail
     have hlt1 := k1.lt
     have hlt2 := j1.lt
     refine wp_region_noPanic ?_
     refine wp_region_held_drew (S := (fun w' => w'.cell? ⟨w3.heap.size, 0, none⟩ = some (.int .i64 x) ∧ w'.cell? ⟨w3.heap.size, 1, none⟩ = some (.int .i64 y) ∧ w'.cell? ⟨w4.heap.size, 0, none⟩ = some (.int .i64 x) ∧ w'.cell? ⟨w4.heap.size, 1, none⟩ = some (.int .i64 v))) (by kernel_rfl) (⟨c0, c1, d0, d1⟩) (fun hHeld => ?_)
     refine wpAnyH_take (i := 0) (v := ?_) rfl (by kernel_rfl) (by kernel_rfl) (by kernel_rfl) (fun _ _ _ h => h) (Or.inl ⟨by rfl, ?_⟩) (by assumption) ?_
     rotate_left
     ·(intro w' hS; (try dsimp only at hS); go_simp; try with_reducible rfl)
     try simp only [Act.put, List.getElem_toArray, List.getElem_cons_succ, List.getElem_cons_zero, List.setIfInBounds_toArray, List.set_cons_zero, List.set_cons_succ]
     refine wpAnyH_take (i := 2) (v := ?_) rfl (by kernel_rfl) (by kernel_rfl) (by kernel_rfl) (fun _ _ _ h => h) (Or.inl ⟨by rfl, ?_⟩) (by assumption) ?_
     rotate_left
     ·(intro w' hS; (try dsimp only at hS); go_simp; try with_reducible rfl)
     try simp only [Act.put, List.getElem_toArray, List.getElem_cons_succ, List.getElem_cons_zero, List.setIfInBounds_toArray, List.set_cons_zero, List.set_cons_succ]
     refine wpAnyH_ready (rs := [1]) (by kernel_rfl) (by simp) ?_
     refine AllReadyH.cons rfl (fun K hK => ?_) AllReadyH.nil
     go_simp
     refine (HI1.out _).mono ?_
     rintro e wx ⟨rfl, hb6⟩
     have hB6 := hB.drew.trans (hb6.mono hB.size)
     have k6 := (show At2 W5.drew _ _ _ from k1).on hb6
     have j6 := (show At2 W5.drew _ _ _ from j1).on hb6
     go_wp2_with fail
     refine hK.out _ _ (⟨k6.c0, k6.c1, j6.c0, j6.c1⟩) (fun hHeld => ?_)
     clear hK K
     try simp only [Act.put, List.getElem_toArray, List.getElem_cons_succ, List.getElem_cons_zero, List.setIfInBounds_toArray, List.set_cons_zero, List.set_cons_succ]
     refine wpAnyH_ready (rs := [3]) (by kernel_rfl) (by simp) ?_
     refine AllReadyH.cons rfl (fun K hK => ?_) AllReadyH.nil
     go_simp
     refine (HI2.out _).mono ?_
     rintro e wx ⟨rfl, hb7⟩
     have hB7 := hB6.trans (hb7.mono hB6.size)
     go_wp2_with fail
     refine hK.out _ _ (⟨(k6.on hb7).c0, (k6.on hb7).c1, (j6.on hb7).c0, (j6.on hb7).c1⟩) (fun hHeld => ?_)
     clear hK K
     try simp only [Act.put, List.getElem_toArray, List.getElem_cons_succ, List.getElem_cons_zero, List.setIfInBounds_toArray, List.set_cons_zero, List.set_cons_succ]
     refine wpAnyH_take (i := 4) (v := ?_) rfl (by kernel_rfl) (by kernel_rfl) (by kernel_rfl) (fun _ _ _ h => h) (Or.inl ⟨by rfl, ?_⟩) (by assumption) ?_
     rotate_left
     ·(intro w' hS; (try dsimp only at hS); go_simp; try with_reducible rfl)
     try simp only [Act.put, List.getElem_toArray, List.getElem_cons_succ, List.getElem_cons_zero, List.setIfInBounds_toArray, List.set_cons_zero, List.set_cons_succ]
     refine wpAnyH_take (i := 5) (v := ?_) rfl (by kernel_rfl) (by kernel_rfl) (by kernel_rfl) (fun _ _ _ h => h) (Or.inl ⟨by rfl, ?_⟩) (by assumption) ?_
     rotate_left
     ·(intro w' hS; (try dsimp only at hS); go_simp; try with_reducible rfl)
     try simp only [Act.put, List.getElem_toArray, List.getElem_cons_succ, List.getElem_cons_zero, List.setIfInBounds_toArray, List.set_cons_zero, List.set_cons_succ]
     refine wpAnyH_done (by kernel_rfl) ?_ _
     refine NoPanic.normal ?_
     go_wp2
     go_ret
     exact HH.out _ _ rfl hB7
    ·clear he
     go_upto_region 6 with fail
     have hlt1 := k1.lt
     have hlt2 := j1.lt
     refine wp_region_noPanic ?_
     refine wp_region_held_drew (S := (fun w' => w'.cell? ⟨w3.heap.size, 0, none⟩ = some (.int .i64 x) ∧ w'.cell? ⟨w3.heap.size, 1, none⟩ = some (.int .i64 y) ∧ w'.cell? ⟨w4.heap.size, 0, none⟩ = some (.int .i64 u) ∧ w'.cell? ⟨w4.heap.size, 1, none⟩ = some (.int .i64 v))) (by kernel_rfl) (⟨c0, c1, d0, d1⟩) (fun hHeld => ?_)
     refine wpAnyH_take (i := 0) (v := ?_) rfl (by kernel_rfl) (by kernel_rfl) (by kernel_rfl) (fun _ _ _ h => h) (Or.inl ⟨by rfl, ?_⟩) (by assumption) ?_
     rotate_left
     ·(intro w' hS; (try dsimp only at hS); go_simp; try with_reducible rfl)
     try simp only [Act.put, List.getElem_toArray, List.getElem_cons_succ, List.getElem_cons_zero, List.setIfInBounds_toArray, List.set_cons_zero, List.set_cons_succ]
     refine wpAnyH_take (i := 2) (v := ?_) rfl (by kernel_rfl) (by kernel_rfl) (by kernel_rfl) (fun _ _ _ h => h) (Or.inl ⟨by rfl, ?_⟩) (by assumption) ?_
     rotate_left
     ·(intro w' hS; (try dsimp only at hS); go_simp; try with_reducible rfl)
     try simp only [Act.put, List.getElem_toArray, List.getElem_cons_succ, List.getElem_cons_zero, List.setIfInBounds_toArray, List.set_cons_zero, List.set_cons_succ]
     refine wpAnyH_ready (rs := [1]) (by kernel_rfl) (by simp) ?_
     refine AllReadyH.cons rfl (fun K hK => ?_) AllReadyH.nil
     go_simp
     refine (HI1.out _).mono ?_
     rintro e wx ⟨rfl, hb6⟩
     have hB6 := hB.drew.trans (hb6.mono hB.size)
     have k6 := (show At2 W5.drew _ _ _ from k1).on hb6
     have j6 := (show At2 W5.drew _ _ _ from j1).on hb6
     go_wp2_with fail
     refine hK.out _ _ (⟨k6.c0, k6.c1, j6.c0, j6.c1⟩) (fun hHeld => ?_)
     clear hK K
     try simp only [Act.put, List.getElem_toArray, List.getElem_cons_succ, List.getElem_cons_zero, List.setIfInBounds_toArray, List.set_cons_zero, List.set_cons_succ]
     refine wpAnyH_ready (rs := [3]) (by kernel_rfl) (by simp) ?_
     refine AllReadyH.cons rfl (fun K hK => ?_) AllReadyH.nil
     go_simp
     refine (HI2.out _).mono ?_
     rintro e wx ⟨rfl, hb7⟩
     have hB7 := hB6.trans (hb7.mono hB6.size)
     go_wp2_with fail
     refine hK.out _ _ (⟨(k6.on hb7).c0, (k6.on hb7).c1, (j6.on hb7).c0, (j6.on hb7).c1⟩) (fun hHeld => ?_)
     clear hK K
     try simp only [Act.put, List.getElem_toArray, List.getElem_cons_succ, List.getElem_cons_zero, List.setIfInBounds_toArray, List.set_cons_zero, List.set_cons_succ]
     refine wpAnyH_take (i := 4) (v := ?_) rfl (by kernel_rfl) (by kernel_rfl) (by kernel_rfl) (fun _ _ _ h => h) (Or.inl ⟨by rfl, ?_⟩) (by assumption) ?_
     rotate_left
     ·(intro w' hS; (try dsimp only at hS); go_simp; try with_reducible rfl)
     try simp only [Act.put, List.getElem_toArray, List.getElem_cons_succ, List.getElem_cons_zero, List.setIfInBounds_toArray, List.set_cons_zero, List.set_cons_succ]
     refine wpAnyH_take (i := 5) (v := ?_) rfl (by kernel_rfl) (by kernel_rfl) (by kernel_rfl) (fun _ _ _ h => h) (Or.inl ⟨by rfl, ?_⟩) (by assumption) ?_
     rotate_left
     ·(intro w' hS; (try dsimp only at hS); go_simp; try with_reducible rfl)
     try simp only [Act.put, List.getElem_toArray, List.getElem_cons_succ, List.getElem_cons_zero, List.setIfInBounds_toArray, List.set_cons_zero, List.set_cons_succ]
     refine wpAnyH_done (by kernel_rfl) ?_ _
     refine NoPanic.normal ?_
     go_wp2
     go_ret
     exact HH.out _ _ rfl hB7
end Go.Proofs.Ytmajllgfmclcoaa.Dom

namespace Go.Proofs.Ytmajllgfmclcoaa.Dom
set_option linter.unusedVariables false
set_option linter.unusedSimpArgs false
open Go.RowKit Go.Proofs.Ytmajllgfmclcoaa.Cell Go.Proofs.Ytmajllgfmclcoaa.CellN Go.Joins

def mn (a b : Int) : Int := if b < a then b else a
def Ov (w : World) (x y u v : Int) (p q : Int) (b : Bool) (W : World) : Prop :=
 Below w.heap.size w W ∧ At2 W w.heap.size x y ∧ At2 W (w.heap.size + 1) u v ∧ At3 41 W (w.heap.size + 1 + 1) p q b
theorem ov_start (x y u v : Int) (w : World) : Ov w x y u v 0 0 false (((w.alloc (.cells #[.int .i64 x, .int .i64 y] 56)).alloc (.cells #[.int .i64 u, .int .i64 v] 56)).alloc (.cells #[.int .i64 0, .int .i64 0, .bool false] 41)) := by
 obtain ⟨k1, k2, k3⟩ := at2_two w x y u v
 have e2 : ((w.alloc (.cells #[.int .i64 x, .int .i64 y] 56)).alloc (.cells #[.int .i64 u, .int .i64 v] 56)).heap.size = w.heap.size + 1 + 1 := by simp
 generalize (w.alloc (.cells #[.int .i64 x, .int .i64 y] 56)).alloc (.cells #[.int .i64 u, .int .i64 v] 56) = W at k1 k2 k3 e2 ⊢
 have k4 := At3.new 41 W 0 0 false
 rw [e2] at k4
 exact ⟨k3.trans ((below_alloc1 W _).mono k3.size), k1.on (below_alloc1 _ _), k2.on (below_alloc1 _ _), k4⟩
theorem At3.f0 {T : TypeId} {W : World} {q : Nat} {x y : Int} {b : Bool} (h : At3 T W q x y b) : W.frozen? ⟨q, 0, none⟩ = false := by have h' := h; unfold At3 at h'; simp [World.frozen?, h']
theorem At3.f1 {T : TypeId} {W : World} {q : Nat} {x y : Int} {b : Bool} (h : At3 T W q x y b) : W.frozen? ⟨q, 1, none⟩ = false := by have h' := h; unfold At3 at h'; simp [World.frozen?, h']
theorem At3.f2 {T : TypeId} {W : World} {q : Nat} {x y : Int} {b : Bool} (h : At3 T W q x y b) : W.frozen? ⟨q, 2, none⟩ = false := by have h' := h; unfold At3 at h'; simp [World.frozen?, h']
theorem At3.put {T : TypeId} {W : World} {q : Nat} {x y a c : Int} {b d : Bool} (h : At3 T W q x y b) : At3 T (((W.setCell ⟨q, 0, none⟩ (.int .i64 a)).setCell ⟨q, 1, none⟩ (.int .i64 c)).setCell ⟨q, 2, none⟩ (.bool d)) q a c d := by
 have h' := h
 unfold At3 at h' ⊢
 simp [World.setCell, Array.getElem?_modify, h']
section
variable {w W W' : World} {x y u v p q : Int} {b : Bool}
theorem Ov.on (h : Ov w x y u v p q b W) (hb : Below W.heap.size W W') : Ov w x y u v p q b W' := ⟨h.1.trans (hb.mono h.1.size), h.2.1.on hb, h.2.2.1.on hb, h.2.2.2.on hb⟩
theorem Ov.put (h : Ov w x y u v p q b W) (a c : Int) (d : Bool) : Ov w x y u v a c d (((W.setCell ⟨w.heap.size + 1 + 1, 0, none⟩ (.int .i64 a)).setCell ⟨w.heap.size + 1 + 1, 1, none⟩ (.int .i64 c)).setCell ⟨w.heap.size + 1 + 1, 2, none⟩ (.bool d)) :=
 ⟨((h.1.setCell (p := ⟨w.heap.size + 1 + 1, 0, none⟩) (by show w.heap.size ≤ w.heap.size + 1 + 1; omega) _).setCell (p := ⟨w.heap.size + 1 + 1, 1, none⟩) (by show w.heap.size ≤ w.heap.size + 1 + 1; omega) _).setCell (p := ⟨w.heap.size + 1 + 1, 2, none⟩) (by show w.heap.size ≤ w.heap.size + 1 + 1; omega) _, (h.2.1.far2 (by omega)).far (by omega), (h.2.2.1.far2 (by omega)).far (by omega), h.2.2.2.put⟩
end

set_option maxHeartbeats 400000 in
theorem sDominoOver_no (x y u v : Int) (hn : nbB x y u v = false) (w : World) :
  Calls Try.prog 33 #[.agg #[.int .i64 x, .int .i64 y], .agg #[.int .i64 u, .int .i64 v]] w (DoB 0 0 false false w) := by
 have HO := Lib.hid (fun W => hn ▸ sAreNeighbors x y u v W)
 have T0 := Lib.hid (ov_start x y u v w)
 clear hn
 go_enter Try.func33, Try.ntmps33
 go_wp2_with fail
 refine (HO.out _).mono ?_
 rintro e w1 ⟨rfl, hb1⟩
 have T1 := T0.out.on hb1
 have T2 := T1.put 0 0 false
 have c0 := T1.2.2.2.c0
 have c1 := T1.2.2.2.c1
 have c2 := T1.2.2.2.c2
 have c3 := T1.2.2.2.f0
 have c4 := T1.2.2.2.f1
 have c5 := T1.2.2.2.f2
 clear T0 T1 hb1 HO
 go_wp2
 have r0 := T2.2.2.2.c0
 have r1 := T2.2.2.2.c1
 have r2 := T2.2.2.2.c2
 refine bodyPost_ret (v := .tuple #[.agg #[.int .i64 0, .int .i64 0, .bool false], .bool false]) ?_ rfl (mkDoB rfl rfl rfl rfl T2.1)
 simp [results, Try.results33, go_sem, r0, r1, r2]

set_option maxHeartbeats 400000 in
theorem sDominoOver_ok (x y u v : Int) (hn : nbB x y u v = true) (w : World) :
  Calls Try.prog 33 #[.agg #[.int .i64 x, .int .i64 y], .agg #[.int .i64 u, .int .i64 v]] w (DoB (mn x u) (mn y v) (decide (x = u)) true w) := by
 have HO := Lib.hid (fun W => hn ▸ sAreNeighbors x y u v W)
 have T0 := Lib.hid (ov_start x y u v w)
 clear hn
 go_enter Try.func33, Try.ntmps33
 go_wp2_with fail
 refine (HO.out _).mono ?_
 rintro e w1 ⟨rfl, hb1⟩
 have T1 := T0.out.on hb1
 have a0 := T1.2.1.c0
 have a1 := T1.2.1.c1
 have a2 := T1.2.2.1.c0
 have a3 := T1.2.2.1.c1
 have c0 := T1.2.2.2.c0
 have c1 := T1.2.2.2.c1
 have c2 := T1.2.2.2.c2
 have c3 := T1.2.2.2.f0
 have c4 := T1.2.2.2.f1
 have c5 := T1.2.2.2.f2
 have HT := Lib.hid T1
 clear T0 T1 hb1 HO
 by_cases h1 : u < x
 ·by_cases h2 : v < y
  ·go_wp2
   have T2 := HT.out.put u v (x == u)
   have r0 := T2.2.2.2.c0
   have r1 := T2.2.2.2.c1
   have r2 := T2.2.2.2.c2
   refine bodyPost_ret (v := .tuple #[.agg #[.int .i64 u, .int .i64 v, .bool (x == u)], .bool true]) ?_ rfl (mkDoB (by unfold mn; split <;> omega) (by unfold mn; split <;> omega) (by rw [Bool.eq_iff_iff]; simp) rfl T2.1)
   simp [results, Try.results33, go_sem, r0, r1, r2]
  ·go_wp2
   have T2 := HT.out.put u y (x == u)
   have r0 := T2.2.2.2.c0
   have r1 := T2.2.2.2.c1
   have r2 := T2.2.2.2.c2
   refine bodyPost_ret (v := .tuple #[.agg #[.int .i64 u, .int .i64 y, .bool (x == u)], .bool true]) ?_ rfl (mkDoB (by unfold mn; split <;> omega) (by unfold mn; split <;> omega) (by rw [Bool.eq_iff_iff]; simp) rfl T2.1)
   simp [results, Try.results33, go_sem, r0, r1, r2]
 ·by_cases h2 : v < y
  ·go_wp2
   have T2 := HT.out.put x v (x == u)
   have r0 := T2.2.2.2.c0
   have r1 := T2.2.2.2.c1
   have r2 := T2.2.2.2.c2
   refine bodyPost_ret (v := .tuple #[.agg #[.int .i64 x, .int .i64 v, .bool (x == u)], .bool true]) ?_ rfl (mkDoB (by unfold mn; split <;> omega) (by unfold mn; split <;> omega) (by rw [Bool.eq_iff_iff]; simp) rfl T2.1)
   simp [results, Try.results33, go_sem, r0, r1, r2]
  ·go_wp2
   have T2 := HT.out.put x y (x == u)
   have r0 := T2.2.2.2.c0
   have r1 := T2.2.2.2.c1
   have r2 := T2.2.2.2.c2
   refine bodyPost_ret (v := .tuple #[.agg #[.int .i64 x, .int .i64 y, .bool (x == u)], .bool true]) ?_ rfl (mkDoB (by unfold mn; split <;> omega) (by unfold mn; split <;> omega) (by rw [Bool.eq_iff_iff]; simp) rfl T2.1)
   simp [results, Try.results33, go_sem, r0, r1, r2]

end Go.Proofs.Ytmajllgfmclcoaa.Dom

namespace Go.Proofs.Ytmajllgfmclcoaa.Dom
set_option linter.unusedVariables false
set_option linter.unusedSimpArgs false
open Go.RowKit Go.Proofs.Ytmajllgfmclcoaa.Cell Go.Joins

def Yes (w : World) (e : Ending) (w' : World) : Prop := e = .returned (.bool true) ∧ Below w.heap.size w w'

set_option maxHeartbeats 400000 in
theorem toDomino (x y : Int) (b : Bool) (w : World) :
  Calls Try.prog 18 #[.agg #[.int .i64 x, .int .i64 y, .bool b]] w (Do x y b w) := by
 go_enter Try.func18, Try.ntmps18
 go_wp2
 exact bodyPost_ret (v := .agg #[.int .i64 x, .int .i64 y, .bool b]) (by simp [results, Try.results18, go_sem]) rfl ⟨rfl, below_alloc3 _ _ _ _⟩

set_option maxHeartbeats 400000 in
theorem eqDominoSame (x y : Int) (b : Bool) (w : World) :
  Calls Try.prog 24 #[.agg #[.int .i64 x, .int .i64 y, .bool b], .agg #[.int .i64 x, .int .i64 y, .bool b]] w (Bol true w) := by
 have e1 : (x != x) = false := by simp
 have e2 : (y != y) = false := by simp
 have e3 : (b != b) = false := by simp
 go_enter Try.func24, Try.ntmps24
 go_wp2
 go_ret
 exact mkBol rfl (below_alloc2 _ _ _)
end Go.Proofs.Ytmajllgfmclcoaa.Dom
