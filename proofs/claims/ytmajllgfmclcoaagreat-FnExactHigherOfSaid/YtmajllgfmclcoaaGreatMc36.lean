/- JoI in one text. -/
import Derived.Test.YtmajllgfmclcoaaGreatMc22
import Derived.Test.YtmajllgfmclcoaaGreatMc30
import Derived.Test.YtmajllgfmclcoaaGreatMc06
import Derived.Test.YtmajllgfmclcoaaGreatMc27
import Derived.Test.YtmajllgfmclcoaaGreatMc08
import Derived.Deep.DeepAppendRoom

namespace Go.Proofs.YtmajllgfmclcoaaGreat.Jn
set_option linter.unusedVariables false
set_option linter.unusedSimpArgs false
set_option maxRecDepth 100000
open Go.RowKit Go.Proofs.YtmajllgfmclcoaaGreat.Base Go.Proofs.YtmajllgfmclcoaaGreat.Dms Go.Proofs.YtmajllgfmclcoaaGreat.Til Go.Proofs.YtmajllgfmclcoaaGreat.Hgt Go.Joins Go.Deep
open Go.Proofs.YtmajllgfmclcoaaGreat.Reg (ints intInfo RowB rowB_own own_below own_base)
open Go.Proofs.YtmajllgfmclcoaaGreat.Cor (iHeightsOf iEqualI)

theorem ints_snoc' (h : List Int) (y : Int) : ints (h ++ [y]) = ints h ++ [.int .i64 y] := by unfold Reg.ints; simp
theorem row_at1 {W : World} {A : Option Addr} {xs : List Int} (r : RowB W W.heap.size A xs) {k : Nat} (hk : k < xs.length) : ∃ b off, A = some ⟨b, off, none⟩ ∧ b < W.heap.size ∧ W.cell? ⟨b, off + k, none⟩ = some (.int .i64 (ht xs k)) := by
 obtain ⟨b, off, h1, h2⟩ := r
 exact ⟨b, off, (h1 (by omega)).1, (h1 (by omega)).2, by rw [ht_at hk]; exact h2 k _ (List.getElem?_eq_getElem hk)⟩
def ChP (Z : List Int) (n : Nat) (w : World) (e : Ending) (w' : World) : Prop := ∃ (A : Option Addr) (c : Nat), e = .returned (.slice A n c) ∧ w'.ownsRow w.heap.size 3 1 (.slice A n c) n (ints Z) ∧ Below w.heap.size w w'

set_option maxHeartbeats 400000 in
theorem iLesser (x y : Int) (w : World) : Calls Tryz.prog 23 #[.int .i64 x, .int .i64 y] w fun e w' => e = .returned (.int .i64 (min x y)) ∧ w = w' := by
 have H : ∀ v : Int, v = min x y → Ending.returned (.int .i64 v) = .returned (.int .i64 (min x y)) := fun v h => by rw [h]
 have HH := Lib.hid H
 clear H
 go_enter Tryz.func23, Tryz.ntmps23
 go_wp2
 all_goals
  go_ret
  refine ⟨HH.out _ ?_, rfl⟩
  omega

set_option maxHeartbeats 4000000 in
theorem iChosenLesser (w : World) (A : Option Addr) (n cap B : Nat) (hs : List Int) (hl : hs.length = n) (h : RowB w B A hs) (hB : B ≤ w.heap.size) (A' : Option Addr) (cap' B' : Nat) (gs : List Int) (hl' : gs.length = n) (h' : RowB w B' A' gs) (hB' : B' ≤ w.heap.size) (h81 : n = 81) :
  Calls Tryz.prog 32 #[.slice A n cap, .slice A' n cap', .func (.func 23) #[] #[]] w (ChP (List.zipWith min hs gs) n w) := by
 obtain ⟨i0, hi, hz0, hz1, hz2⟩ := info_parts intInfo
 have HLs := Lib.hid (fun x y W => iLesser x y W)
 have HZ := Lib.hid (fun k (hk : k < n) => show (List.zipWith min hs gs).take (k + 1) = (List.zipWith min hs gs).take k ++ [min (ht hs k) (ht gs k)] from by rw [ht_at (show k < hs.length by omega), ht_at (show k < gs.length by omega)]; exact zw_take min (hl.trans h81) (hl'.trans h81) (by omega))
 have HZa := Lib.hid (show (List.zipWith min hs gs).take n = List.zipWith min hs gs by rw [h81]; exact zw_all min (hl.trans h81) (hl'.trans h81))
 have HX := Lib.hid (fun W (hb : Below w.heap.size w W) k (hk : k < n) => row_at1 ((h.below hb hB).mono (by have := hb.size; omega)) (k := k) (by omega))
 have HY := Lib.hid (fun W (hb : Below w.heap.size w W) k (hk : k < n) => row_at1 ((h'.below hb hB').mono (by have := hb.size; omega)) (k := k) (by omega))
 have HL1 := Lib.hid hl
 have HL2 := Lib.hid hl'
 generalize List.zipWith min hs gs = Z at HZ HZa ⊢
 have hn1 : n ≤ 81 := by omega
 clear h h' hl hl' h81 hB hB'
 go_enter Tryz.func32, Tryz.ntmps32
 go_wp2_with (first
  | (at_make; refine wpList_make_own _ rfl _ _ 22 rfl w.heap.size 3 i0 (.int .i64 0) 1 Tryz.underlying22 hi hz0 hz1 .i64 .i64 (n : Int) n rfl rfl rfl (by rw [hz2]; omega) (by unfold maxLen; omega) (Nat.le_refl _) ?_; intro w1 hown1 hg1))
 have HO := Lib.hid hown1
 have HB := Lib.hid (show Below w.heap.size w w1 from (Below.refl _ _).grown hg1 (Nat.le_refl _) (by simp))
 clear hown1 hg1
 go_loopw [7, 14] (fun u i wr => ∃ k : Nat, k ≤ n ∧ i = .int .i64 k ∧ Hid (Below w.heap.size w wr) ∧ Hid (wr.ownsRow w.heap.size 3 1 u k (ints (Z.take k)))) (fun _ i _ => n - (intOf i).toNat)
 case atStart => exact ⟨0, Nat.zero_le _, rfl, HB, by rw [List.take_zero]; exact HO⟩
 case round =>
  clear HB HO
  obtain ⟨k, hk, rfl, HB, HO⟩ := hrel
  by_cases hlt : k < n
  ·have hltI : (k : Int) < (n : Int) := by omega
   have hZ := HZ.out k hlt
   obtain ⟨b1, o1, rfl, hb1, -⟩ := HX.out _ HB.out k hlt
   obtain ⟨b2, o2, rfl, hb2, -⟩ := HY.out _ HB.out k hlt
   have HC1 := Lib.hid (fun W (hb : Below w.heap.size w W) => show W.cell? ⟨b1, o1 + k, none⟩ = some (.int .i64 (ht hs k)) from by
    obtain ⟨b, o, e, _, c⟩ := HX.out W hb k hlt
    injection e with e; injection e with e1 e2
    subst e1; subst e2; exact c)
   have HC2 := Lib.hid (fun W (hb : Below w.heap.size w W) => show W.cell? ⟨b2, o2 + k, none⟩ = some (.int .i64 (ht gs k)) from by
    obtain ⟨b, o, e, _, c⟩ := HY.out W hb k hlt
    injection e with e; injection e with e1 e2
    subst e1; subst e2; exact c)
   generalize ht hs k = x at hZ HC1
   generalize ht gs k = y at hZ HC2
   have HZk := Lib.hid hZ
   have hk81 : k < 81 := by omega
   clear hZ hb1 hb2
   have hmm : ∃ z, min x y = z := ⟨_, rfl⟩
   obtain ⟨z, hz⟩ := hmm
   rw [hz] at HZk
   have HLz := Lib.hid (fun W => show Calls Tryz.prog 23 #[.int .i64 x, .int .i64 y] W (fun e w' => e = .returned (.int .i64 z) ∧ W = w') from hz ▸ HLs.out x y W)
   clear hz
   go_wp2_with fail
   refine wp_region_noPanic ?_
   refine wp_region_held_drew (S := (fun w' => w'.cell? ⟨b1, o1 + k, none⟩ = some (.int .i64 x) ∧ w'.cell? ⟨b2, o2 + k, none⟩ = some (.int .i64 y))) (by kernel_rfl) (⟨HC1.out _ HB.out.drew, HC2.out _ HB.out.drew⟩) (fun hHeld => ?_)
   have HB1 := Lib.hid HB.out.drew
   have HO1 := Lib.hid (show wr.drew.ownsRow w.heap.size 3 1 u7 k (ints (Z.take k)) from HO.out)
   clear HB HO
   generalize wr.drew = W1 at HB1 HO1 hHeld ⊢
   refine wpAnyH_take (i := 0) (v := ?_) rfl (by kernel_rfl) (by kernel_rfl) (by kernel_rfl) (fun _ _ _ h => h) (Or.inl ⟨by rfl, ?_⟩) (by assumption) ?_
   rotate_left
   ·(intro w' hS; (try dsimp only at hS); go_simp; try with_reducible rfl)
   try simp only [Act.put, List.getElem_toArray, List.getElem_cons_succ, List.getElem_cons_zero, List.setIfInBounds_toArray, List.set_cons_zero, List.set_cons_succ]
   refine wpAnyH_take (i := 1) (v := ?_) rfl (by kernel_rfl) (by kernel_rfl) (by kernel_rfl) (fun _ _ _ h => h) (Or.inl ⟨by rfl, ?_⟩) (by assumption) ?_
   rotate_left
   ·(intro w' hS; (try dsimp only at hS); go_simp; try with_reducible rfl)
   try simp only [Act.put, List.getElem_toArray, List.getElem_cons_succ, List.getElem_cons_zero, List.setIfInBounds_toArray, List.set_cons_zero, List.set_cons_succ]
   refine wpAnyH_take (i := 2) (v := ?_) rfl (by kernel_rfl) (by kernel_rfl) (by kernel_rfl) (fun _ _ _ h => h) (Or.inl ⟨by rfl, ?_⟩) (by assumption) ?_
   rotate_left
   ·(intro w' hS; (try dsimp only at hS); go_simp; try with_reducible rfl)
   try simp only [Act.put, List.getElem_toArray, List.getElem_cons_succ, List.getElem_cons_zero, List.setIfInBounds_toArray, List.set_cons_zero, List.set_cons_succ]
   refine wpAnyH_take (i := 3) (v := ?_) rfl (by kernel_rfl) (by kernel_rfl) (by kernel_rfl) (fun _ _ _ h => h) (Or.inl ⟨by rfl, ?_⟩) (by assumption) ?_
   rotate_left
   ·(intro w' hS; (try dsimp only at hS); go_simp; try with_reducible rfl)
   try simp only [Act.put, List.getElem_toArray, List.getElem_cons_succ, List.getElem_cons_zero, List.setIfInBounds_toArray, List.set_cons_zero, List.set_cons_succ]
   refine wpAnyH_take (i := 4) (v := ?_) rfl (by kernel_rfl) (by kernel_rfl) (by kernel_rfl) (fun _ _ _ h => h) (Or.inl ⟨by rfl, ?_⟩) (by assumption) ?_
   rotate_left
   ·(intro w' hS; (try dsimp only at hS); go_simp; try with_reducible rfl)
   try simp only [Act.put, List.getElem_toArray, List.getElem_cons_succ, List.getElem_cons_zero, List.setIfInBounds_toArray, List.set_cons_zero, List.set_cons_succ]
   refine wpAnyH_take (i := 5) (v := ?_) rfl (by kernel_rfl) (by kernel_rfl) (by kernel_rfl) (fun _ _ _ h => h) (Or.inl ⟨by rfl, ?_⟩) (by assumption) ?_
   rotate_left
   ·(intro w' hS; (try dsimp only at hS); go_simp; try with_reducible rfl)
   try simp only [Act.put, List.getElem_toArray, List.getElem_cons_succ, List.getElem_cons_zero, List.setIfInBounds_toArray, List.set_cons_zero, List.set_cons_succ]
   refine wpAnyH_take (i := 6) (v := ?_) rfl (by kernel_rfl) (by kernel_rfl) (by kernel_rfl) (fun _ _ _ h => h) (Or.inl ⟨by rfl, ?_⟩) (by assumption) ?_
   rotate_left
   ·(intro w' hS; (try dsimp only at hS); go_simp; try with_reducible rfl)
   try simp only [Act.put, List.getElem_toArray, List.getElem_cons_succ, List.getElem_cons_zero, List.setIfInBounds_toArray, List.set_cons_zero, List.set_cons_succ]
   refine wpAnyH_take (i := 7) (v := ?_) rfl (by kernel_rfl) (by kernel_rfl) (by kernel_rfl) (fun _ _ _ h => h) (Or.inl ⟨by rfl, ?_⟩) (by assumption) ?_
   rotate_left
   ·(intro w' hS; (try dsimp only at hS); go_simp; try with_reducible rfl)
   try simp only [Act.put, List.getElem_toArray, List.getElem_cons_succ, List.getElem_cons_zero, List.setIfInBounds_toArray, List.set_cons_zero, List.set_cons_succ]
   refine wpAnyH_take (i := 8) (v := ?_) rfl (by kernel_rfl) (by kernel_rfl) (by kernel_rfl) (fun _ _ _ h => h) (Or.inl ⟨by rfl, ?_⟩) (by assumption) ?_
   rotate_left
   ·(intro w' hS; (try dsimp only at hS); go_simp; try with_reducible rfl)
   try simp only [Act.put, List.getElem_toArray, List.getElem_cons_succ, List.getElem_cons_zero, List.setIfInBounds_toArray, List.set_cons_zero, List.set_cons_succ]
   refine wpAnyH_take (i := 9) (v := ?_) rfl (by kernel_rfl) (by kernel_rfl) (by kernel_rfl) (fun _ _ _ h => h) (Or.inl ⟨by rfl, ?_⟩) (by assumption) ?_
   rotate_left
   ·(intro w' hS; (try dsimp only at hS); go_simp; try with_reducible rfl)
   try simp only [Act.put, List.getElem_toArray, List.getElem_cons_succ, List.getElem_cons_zero, List.setIfInBounds_toArray, List.set_cons_zero, List.set_cons_succ]
   refine wpAnyH_ready (rs := [10]) (by kernel_rfl) (by simp) ?_
   refine AllReadyH.cons rfl (fun K hK => ?_) AllReadyH.nil
   go_simp
   refine (HLz.out _).mono ?_
   rintro e wx ⟨rfl, rfl⟩
   go_wp2_with fail
   refine hK.out _ _ (⟨HC1.out _ HB1.out, HC2.out _ HB1.out⟩) (fun hHeld => ?_)
   clear hK K
   try simp only [Act.put, List.getElem_toArray, List.getElem_cons_succ, List.getElem_cons_zero, List.setIfInBounds_toArray, List.set_cons_zero, List.set_cons_succ]
   refine wpAnyH_ready (rs := [11]) (by kernel_rfl) (by simp) ?_
   refine AllReadyH.cons rfl (fun K hK => ?_) AllReadyH.nil
   go_simp
   have HB2 := Lib.hid (HB1.out.trans ((below_alloc1 W1 (.cells #[.int .i64 z] 3)).mono HB1.out.size))
   have HO2 := Lib.hid (HO1.out.alloc (.cells #[.int .i64 z] 3))
   refine hK.out _ _ (⟨HC1.out _ HB2.out, HC2.out _ HB2.out⟩) (fun hHeld => ?_)
   clear hK K
   try simp only [Act.put, List.getElem_toArray, List.getElem_cons_succ, List.getElem_cons_zero, List.setIfInBounds_toArray, List.set_cons_zero, List.set_cons_succ]
   refine wpAnyH_ready (rs := [12]) (by kernel_rfl) (by simp) ?_
   refine AllReadyH.cons rfl (fun K hK => ?_) AllReadyH.nil
   refine step_append_lies _ (by rfl) _ _ 22 (by rfl) w.heap.size 3 i0 (.int .i64 0) 1 8 Tryz.underlying22 hi hz0 hz1 hz2 rfl (by decide) u7 k (ints (Z.take k)) (by rfl) HO2.out ⟨W1.heap.size, 0, none⟩ 1 1 [.int .i64 z] (by rfl) rfl (World.news_of_block (cs := #[.int .i64 z]) (t := 3) (fr := (0, 0)) (heap_alloc_new W1 _)) (by simp [Value.oneCell']) (by omega) (by unfold maxLen; omega) (by omega) (by have := HB1.out.size; simp; omega) _ rfl ?_
   intro g c w7 hown7 hg7 hwh7 hlt7
   have HO7 := Lib.hid (show w7.ownsRow w.heap.size 3 1 (.slice (some ⟨g, 0, none⟩) (k + 1) c) (k + 1) (ints (Z.take (k + 1))) by rw [HZk.out, ints_snoc']; exact hown7)
   have HB7 := Lib.hid (HB2.out.grown hg7 HB2.out.size (fun q hq => (HO2.out.lt q hq).1))
   clear hown7 hg7 hwh7 hlt7
   refine hK.out _ _ (⟨HC1.out _ HB7.out, HC2.out _ HB7.out⟩) (fun hHeld => ?_)
   clear hK K
   try simp only [Act.put, List.getElem_toArray, List.getElem_cons_succ, List.getElem_cons_zero, List.setIfInBounds_toArray, List.set_cons_zero, List.set_cons_succ]
   refine wpAnyH_take (i := 13) (v := ?_) rfl (by kernel_rfl) (by kernel_rfl) (by kernel_rfl) (fun _ _ _ h => h) (Or.inl ⟨by rfl, ?_⟩) (by assumption) ?_
   rotate_left
   ·(intro w' hS; (try dsimp only at hS); go_simp; try with_reducible rfl)
   try simp only [Act.put, List.getElem_toArray, List.getElem_cons_succ, List.getElem_cons_zero, List.setIfInBounds_toArray, List.set_cons_zero, List.set_cons_succ]
   refine wpAnyH_done (by kernel_rfl) ?_ _
   refine NoPanic.normal ?_
   clear hHeld
   go_wp2
   go_roundw
   case rel => exact ⟨k + 1, by omega, by go_num, HB7, HO7⟩
   case measure => (simp [intOf] <;> omega)
  ·obtain rfl : k = n := by omega
   obtain ⟨A2, cap2, rfl⟩ := own_shape HO.out
   have HE := Lib.hid (show _ from HZa.out ▸ HO.out)
   go_wp2
   go_ret
   exact ⟨A2, cap2, rfl, HE.out, HB.out⟩

set_option maxHeartbeats 400000 in
theorem iGreater (x y : Int) (w : World) : Calls Tryz.prog 27 #[.int .i64 x, .int .i64 y] w fun e w' => e = .returned (.int .i64 (max x y)) ∧ w = w' := by
 have H : ∀ v : Int, v = max x y → Ending.returned (.int .i64 v) = .returned (.int .i64 (max x y)) := fun v h => by rw [h]
 have HH := Lib.hid H
 clear H
 go_enter Tryz.func27, Tryz.ntmps27
 go_wp2
 all_goals
  go_ret
  refine ⟨HH.out _ ?_, rfl⟩
  omega

set_option maxHeartbeats 4000000 in
theorem iChosenGreater (w : World) (A : Option Addr) (n cap B : Nat) (hs : List Int) (hl : hs.length = n) (h : RowB w B A hs) (hB : B ≤ w.heap.size) (A' : Option Addr) (cap' B' : Nat) (gs : List Int) (hl' : gs.length = n) (h' : RowB w B' A' gs) (hB' : B' ≤ w.heap.size) (h81 : n = 81) :
  Calls Tryz.prog 32 #[.slice A n cap, .slice A' n cap', .func (.func 27) #[] #[]] w (ChP (List.zipWith max hs gs) n w) := by
 obtain ⟨i0, hi, hz0, hz1, hz2⟩ := info_parts intInfo
 have HLs := Lib.hid (fun x y W => iGreater x y W)
 have HZ := Lib.hid (fun k (hk : k < n) => show (List.zipWith max hs gs).take (k + 1) = (List.zipWith max hs gs).take k ++ [max (ht hs k) (ht gs k)] from by rw [ht_at (show k < hs.length by omega), ht_at (show k < gs.length by omega)]; exact zw_take max (hl.trans h81) (hl'.trans h81) (by omega))
 have HZa := Lib.hid (show (List.zipWith max hs gs).take n = List.zipWith max hs gs by rw [h81]; exact zw_all max (hl.trans h81) (hl'.trans h81))
 have HX := Lib.hid (fun W (hb : Below w.heap.size w W) k (hk : k < n) => row_at1 ((h.below hb hB).mono (by have := hb.size; omega)) (k := k) (by omega))
 have HY := Lib.hid (fun W (hb : Below w.heap.size w W) k (hk : k < n) => row_at1 ((h'.below hb hB').mono (by have := hb.size; omega)) (k := k) (by omega))
 have HL1 := Lib.hid hl
 have HL2 := Lib.hid hl'
 generalize List.zipWith max hs gs = Z at HZ HZa ⊢
 have hn1 : n ≤ 81 := by omega
 clear h h' hl hl' h81 hB hB'
 go_enter Tryz.func32, Tryz.ntmps32
 go_wp2_with (first
  | (at_make; refine wpList_make_own _ rfl _ _ 22 rfl w.heap.size 3 i0 (.int .i64 0) 1 Tryz.underlying22 hi hz0 hz1 .i64 .i64 (n : Int) n rfl rfl rfl (by rw [hz2]; omega) (by unfold maxLen; omega) (Nat.le_refl _) ?_; intro w1 hown1 hg1))
 have HO := Lib.hid hown1
 have HB := Lib.hid (show Below w.heap.size w w1 from (Below.refl _ _).grown hg1 (Nat.le_refl _) (by simp))
 clear hown1 hg1
 go_loopw [7, 14] (fun u i wr => ∃ k : Nat, k ≤ n ∧ i = .int .i64 k ∧ Hid (Below w.heap.size w wr) ∧ Hid (wr.ownsRow w.heap.size 3 1 u k (ints (Z.take k)))) (fun _ i _ => n - (intOf i).toNat)
 case atStart => exact ⟨0, Nat.zero_le _, rfl, HB, by rw [List.take_zero]; exact HO⟩
 case round =>
  clear HB HO
  obtain ⟨k, hk, rfl, HB, HO⟩ := hrel
  by_cases hlt : k < n
  ·have hltI : (k : Int) < (n : Int) := by omega
   have hZ := HZ.out k hlt
   obtain ⟨b1, o1, rfl, hb1, -⟩ := HX.out _ HB.out k hlt
   obtain ⟨b2, o2, rfl, hb2, -⟩ := HY.out _ HB.out k hlt
   have HC1 := Lib.hid (fun W (hb : Below w.heap.size w W) => show W.cell? ⟨b1, o1 + k, none⟩ = some (.int .i64 (ht hs k)) from by
    obtain ⟨b, o, e, _, c⟩ := HX.out W hb k hlt
    injection e with e; injection e with e1 e2
    subst e1; subst e2; exact c)
   have HC2 := Lib.hid (fun W (hb : Below w.heap.size w W) => show W.cell? ⟨b2, o2 + k, none⟩ = some (.int .i64 (ht gs k)) from by
    obtain ⟨b, o, e, _, c⟩ := HY.out W hb k hlt
    injection e with e; injection e with e1 e2
    subst e1; subst e2; exact c)
   generalize ht hs k = x at hZ HC1
   generalize ht gs k = y at hZ HC2
   have HZk := Lib.hid hZ
   have hk81 : k < 81 := by omega
   clear hZ hb1 hb2
   have hmm : ∃ z, max x y = z := ⟨_, rfl⟩
   obtain ⟨z, hz⟩ := hmm
   rw [hz] at HZk
   have HLz := Lib.hid (fun W => show Calls Tryz.prog 27 #[.int .i64 x, .int .i64 y] W (fun e w' => e = .returned (.int .i64 z) ∧ W = w') from hz ▸ HLs.out x y W)
   clear hz
   go_wp2_with fail
   refine wp_region_noPanic ?_
   refine wp_region_held_drew (S := (fun w' => w'.cell? ⟨b1, o1 + k, none⟩ = some (.int .i64 x) ∧ w'.cell? ⟨b2, o2 + k, none⟩ = some (.int .i64 y))) (by kernel_rfl) (⟨HC1.out _ HB.out.drew, HC2.out _ HB.out.drew⟩) (fun hHeld => ?_)
   have HB1 := Lib.hid HB.out.drew
   have HO1 := Lib.hid (show wr.drew.ownsRow w.heap.size 3 1 u7 k (ints (Z.take k)) from HO.out)
   clear HB HO
   generalize wr.drew = W1 at HB1 HO1 hHeld ⊢
   refine wpAnyH_take (i := 0) (v := ?_) rfl (by kernel_rfl) (by kernel_rfl) (by kernel_rfl) (fun _ _ _ h => h) (Or.inl ⟨by rfl, ?_⟩) (by assumption) ?_
   rotate_left
   ·(intro w' hS; (try dsimp only at hS); go_simp; try with_reducible rfl)
   try simp only [Act.put, List.getElem_toArray, List.getElem_cons_succ, List.getElem_cons_zero, List.setIfInBounds_toArray, List.set_cons_zero, List.set_cons_succ]
   refine wpAnyH_take (i := 1) (v := ?_) rfl (by kernel_rfl) (by kernel_rfl) (by kernel_rfl) (fun _ _ _ h => h) (Or.inl ⟨by rfl, ?_⟩) (by assumption) ?_
   rotate_left
   ·(intro w' hS; (try dsimp only at hS); go_simp; try with_reducible rfl)
   try simp only [Act.put, List.getElem_toArray, List.getElem_cons_succ, List.getElem_cons_zero, List.setIfInBounds_toArray, List.set_cons_zero, List.set_cons_succ]
   refine wpAnyH_take (i := 2) (v := ?_) rfl (by kernel_rfl) (by kernel_rfl) (by kernel_rfl) (fun _ _ _ h => h) (Or.inl ⟨by rfl, ?_⟩) (by assumption) ?_
   rotate_left
   ·(intro w' hS; (try dsimp only at hS); go_simp; try with_reducible rfl)
   try simp only [Act.put, List.getElem_toArray, List.getElem_cons_succ, List.getElem_cons_zero, List.setIfInBounds_toArray, List.set_cons_zero, List.set_cons_succ]
   refine wpAnyH_take (i := 3) (v := ?_) rfl (by kernel_rfl) (by kernel_rfl) (by kernel_rfl) (fun _ _ _ h => h) (Or.inl ⟨by rfl, ?_⟩) (by assumption) ?_
   rotate_left
   ·(intro w' hS; (try dsimp only at hS); go_simp; try with_reducible rfl)
   try simp only [Act.put, List.getElem_toArray, List.getElem_cons_succ, List.getElem_cons_zero, List.setIfInBounds_toArray, List.set_cons_zero, List.set_cons_succ]
   refine wpAnyH_take (i := 4) (v := ?_) rfl (by kernel_rfl) (by kernel_rfl) (by kernel_rfl) (fun _ _ _ h => h) (Or.inl ⟨by rfl, ?_⟩) (by assumption) ?_
   rotate_left
   ·(intro w' hS; (try dsimp only at hS); go_simp; try with_reducible rfl)
   try simp only [Act.put, List.getElem_toArray, List.getElem_cons_succ, List.getElem_cons_zero, List.setIfInBounds_toArray, List.set_cons_zero, List.set_cons_succ]
   refine wpAnyH_take (i := 5) (v := ?_) rfl (by kernel_rfl) (by kernel_rfl) (by kernel_rfl) (fun _ _ _ h => h) (Or.inl ⟨by rfl, ?_⟩) (by assumption) ?_
   rotate_left
   ·(intro w' hS; (try dsimp only at hS); go_simp; try with_reducible rfl)
   try simp only [Act.put, List.getElem_toArray, List.getElem_cons_succ, List.getElem_cons_zero, List.setIfInBounds_toArray, List.set_cons_zero, List.set_cons_succ]
   refine wpAnyH_take (i := 6) (v := ?_) rfl (by kernel_rfl) (by kernel_rfl) (by kernel_rfl) (fun _ _ _ h => h) (Or.inl ⟨by rfl, ?_⟩) (by assumption) ?_
   rotate_left
   ·(intro w' hS; (try dsimp only at hS); go_simp; try with_reducible rfl)
   try simp only [Act.put, List.getElem_toArray, List.getElem_cons_succ, List.getElem_cons_zero, List.setIfInBounds_toArray, List.set_cons_zero, List.set_cons_succ]
   refine wpAnyH_take (i := 7) (v := ?_) rfl (by kernel_rfl) (by kernel_rfl) (by kernel_rfl) (fun _ _ _ h => h) (Or.inl ⟨by rfl, ?_⟩) (by assumption) ?_
   rotate_left
   ·(intro w' hS; (try dsimp only at hS); go_simp; try with_reducible rfl)
   try simp only [Act.put, List.getElem_toArray, List.getElem_cons_succ, List.getElem_cons_zero, List.setIfInBounds_toArray, List.set_cons_zero, List.set_cons_succ]
   refine wpAnyH_take (i := 8) (v := ?_) rfl (by kernel_rfl) (by kernel_rfl) (by kernel_rfl) (fun _ _ _ h => h) (Or.inl ⟨by rfl, ?_⟩) (by assumption) ?_
   rotate_left
   ·(intro w' hS; (try dsimp only at hS); go_simp; try with_reducible rfl)
   try simp only [Act.put, List.getElem_toArray, List.getElem_cons_succ, List.getElem_cons_zero, List.setIfInBounds_toArray, List.set_cons_zero, List.set_cons_succ]
   refine wpAnyH_take (i := 9) (v := ?_) rfl (by kernel_rfl) (by kernel_rfl) (by kernel_rfl) (fun _ _ _ h => h) (Or.inl ⟨by rfl, ?_⟩) (by assumption) ?_
   rotate_left
   ·(intro w' hS; (try dsimp only at hS); go_simp; try with_reducible rfl)
   try simp only [Act.put, List.getElem_toArray, List.getElem_cons_succ, List.getElem_cons_zero, List.setIfInBounds_toArray, List.set_cons_zero, List.set_cons_succ]
   refine wpAnyH_ready (rs := [10]) (by kernel_rfl) (by simp) ?_
   refine AllReadyH.cons rfl (fun K hK => ?_) AllReadyH.nil
   go_simp
   refine (HLz.out _).mono ?_
   rintro e wx ⟨rfl, rfl⟩
   go_wp2_with fail
   refine hK.out _ _ (⟨HC1.out _ HB1.out, HC2.out _ HB1.out⟩) (fun hHeld => ?_)
   clear hK K
   try simp only [Act.put, List.getElem_toArray, List.getElem_cons_succ, List.getElem_cons_zero, List.setIfInBounds_toArray, List.set_cons_zero, List.set_cons_succ]
   refine wpAnyH_ready (rs := [11]) (by kernel_rfl) (by simp) ?_
   refine AllReadyH.cons rfl (fun K hK => ?_) AllReadyH.nil
   go_simp
   have HB2 := Lib.hid (HB1.out.trans ((below_alloc1 W1 (.cells #[.int .i64 z] 3)).mono HB1.out.size))
   have HO2 := Lib.hid (HO1.out.alloc (.cells #[.int .i64 z] 3))
   refine hK.out _ _ (⟨HC1.out _ HB2.out, HC2.out _ HB2.out⟩) (fun hHeld => ?_)
   clear hK K
   try simp only [Act.put, List.getElem_toArray, List.getElem_cons_succ, List.getElem_cons_zero, List.setIfInBounds_toArray, List.set_cons_zero, List.set_cons_succ]
   refine wpAnyH_ready (rs := [12]) (by kernel_rfl) (by simp) ?_
   refine AllReadyH.cons rfl (fun K hK => ?_) AllReadyH.nil
   refine step_append_lies _ (by rfl) _ _ 22 (by rfl) w.heap.size 3 i0 (.int .i64 0) 1 8 Tryz.underlying22 hi hz0 hz1 hz2 rfl (by decide) u7 k (ints (Z.take k)) (by rfl) HO2.out ⟨W1.heap.size, 0, none⟩ 1 1 [.int .i64 z] (by rfl) rfl (World.news_of_block (cs := #[.int .i64 z]) (t := 3) (fr := (0, 0)) (heap_alloc_new W1 _)) (by simp [Value.oneCell']) (by omega) (by unfold maxLen; omega) (by omega) (by have := HB1.out.size; simp; omega) _ rfl ?_
   intro g c w7 hown7 hg7 hwh7 hlt7
   have HO7 := Lib.hid (show w7.ownsRow w.heap.size 3 1 (.slice (some ⟨g, 0, none⟩) (k + 1) c) (k + 1) (ints (Z.take (k + 1))) by rw [HZk.out, ints_snoc']; exact hown7)
   have HB7 := Lib.hid (HB2.out.grown hg7 HB2.out.size (fun q hq => (HO2.out.lt q hq).1))
   clear hown7 hg7 hwh7 hlt7
   refine hK.out _ _ (⟨HC1.out _ HB7.out, HC2.out _ HB7.out⟩) (fun hHeld => ?_)
   clear hK K
   try simp only [Act.put, List.getElem_toArray, List.getElem_cons_succ, List.getElem_cons_zero, List.setIfInBounds_toArray, List.set_cons_zero, List.set_cons_succ]
   refine wpAnyH_take (i := 13) (v := ?_) rfl (by kernel_rfl) (by kernel_rfl) (by kernel_rfl) (fun _ _ _ h => h) (Or.inl ⟨by rfl, ?_⟩) (by assumption) ?_
   rotate_left
   ·(intro w' hS; (try dsimp only at hS); go_simp; try with_reducible rfl)
   try simp only [Act.put, List.getElem_toArray, List.getElem_cons_succ, List.getElem_cons_zero, List.setIfInBounds_toArray, List.set_cons_zero, List.set_cons_succ]
   refine wpAnyH_done (by kernel_rfl) ?_ _
   refine NoPanic.normal ?_
   clear hHeld
   go_wp2
   go_roundw
   case rel => exact ⟨k + 1, by omega, by go_num, HB7, HO7⟩
   case measure => (simp [intOf] <;> omega)
  ·obtain rfl : k = n := by omega
   obtain ⟨A2, cap2, rfl⟩ := own_shape HO.out
   have HE := Lib.hid (show _ from HZa.out ▸ HO.out)
   go_wp2
   go_ret
   exact ⟨A2, cap2, rfl, HE.out, HB.out⟩

def HbP (xs : List Int) (L M : List Dm) (w : World) (e : Ending) (w' : World) : Prop :=
 ∃ hs gs, hgtR xs L hs ∧ hgtR xs M gs ∧ Below w.heap.size w w' ∧ (((hs = [] ∨ gs = []) ∧ e = .returned (.tuple #[.slice none 0 0, .slice none 0 0, .bool false])) ∨
  (Two xs L M hs gs ∧ ∃ A c A' c', e = .returned (.tuple #[.slice A 81 c, .slice A' 81 c', .bool true]) ∧ RowB w' w'.heap.size A hs ∧ RowB w' w'.heap.size A' gs))
set_option maxHeartbeats 4000000 in
theorem iBoth (w : World) (A : Option Addr) (n cap B : Nat) (xs : List Int) (hx : xs.length = n) (hn : (n : Int) ≤ 9223372036854775807) (h : RowB w B A xs) (hB : B ≤ w.heap.size)
  (A' : Option Addr) (n' cap' B' : Nat) (L : List Dm) (hL : L.length = n') (hn' : (n' : Int) ≤ 9223372036854775807) (hf : Fits L) (h' : RowM w B' A' L) (hB' : B' ≤ w.heap.size) (hcap : n' ≤ cap')
  (A'' : Option Addr) (n'' cap'' B'' : Nat) (M : List Dm) (hM : M.length = n'') (hn'' : (n'' : Int) ≤ 9223372036854775807) (hf' : Fits M) (h'' : RowM w B'' A'' M) (hB'' : B'' ≤ w.heap.size) (hcap' : n'' ≤ cap'') :
  Calls Tryz.prog 30 #[.agg #[.slice A n cap], .slice A' n' cap', .slice A'' n'' cap''] w (HbP xs L M w) := by
 have HS := Lib.hid (r1_start w (.slice A n cap))
 have HH := Lib.hid (fun W (hb : Below w.heap.size w W) => iHeightsOf W A n cap B xs hx hn (h.below hb hB) (by have := hb.size; omega) A' n' cap' B' L hL hn' hf (h'.below hb hB') (by have := hb.size; omega) hcap)
 have HG := Lib.hid (fun W (hb : Below w.heap.size w W) => iHeightsOf W A n cap B xs hx hn (h.below hb hB) (by have := hb.size; omega) A'' n'' cap'' B'' M hM hn'' hf' (h''.below hb hB'') (by have := hb.size; omega) hcap')
 clear hx hn h hB hL hn' h' hB' hf hcap hM hn'' h'' hB'' hf' hcap'
 go_enter Tryz.func30, Tryz.ntmps30
 go_upto_region 1 with fail
 have S0 := Lib.hid (HS.out)
 generalize w.alloc (.cells #[.slice A n cap] 31) = W0 at S0 ⊢
 refine wp_region_noPanic ?_
 refine wp_region_held_drew (S := (fun w' => w'.cell? ⟨w.heap.size, 0, none⟩ = some (.slice A n cap))) (by kernel_rfl) (show W0.drew.cell? _ = _ from S0.out.2.c0) (fun hHeld => ?_)
 have S1 := Lib.hid (show R1 w (.slice A n cap) W0.drew from ⟨S0.out.1.drew, S0.out.2⟩)
 clear HS S0
 generalize W0.drew = W1 at S1 hHeld ⊢
 refine wpAnyH_take (i := 0) (v := ?_) rfl (by kernel_rfl) (by kernel_rfl) (by kernel_rfl) (fun _ _ _ h => h) (Or.inl ⟨by rfl, ?_⟩) (by assumption) ?_
 rotate_left
 ·(intro w' hS; (try dsimp only at hS); go_simp; try with_reducible rfl)
 try simp only [Act.put, List.getElem_toArray, List.getElem_cons_succ, List.getElem_cons_zero, List.setIfInBounds_toArray, List.set_cons_zero, List.set_cons_succ]
 refine wpAnyH_take (i := 1) (v := ?_) rfl (by kernel_rfl) (by kernel_rfl) (by kernel_rfl) (fun _ _ _ h => h) (Or.inl ⟨by rfl, ?_⟩) (by assumption) ?_
 rotate_left
 ·(intro w' hS; (try dsimp only at hS); go_simp; try with_reducible rfl)
 try simp only [Act.put, List.getElem_toArray, List.getElem_cons_succ, List.getElem_cons_zero, List.setIfInBounds_toArray, List.set_cons_zero, List.set_cons_succ]
 refine wpAnyH_take (i := 3) (v := ?_) rfl (by kernel_rfl) (by kernel_rfl) (by kernel_rfl) (fun _ _ _ h => h) (Or.inl ⟨by rfl, ?_⟩) (by assumption) ?_
 rotate_left
 ·(intro w' hS; (try dsimp only at hS); go_simp; try with_reducible rfl)
 try simp only [Act.put, List.getElem_toArray, List.getElem_cons_succ, List.getElem_cons_zero, List.setIfInBounds_toArray, List.set_cons_zero, List.set_cons_succ]
 refine wpAnyH_take (i := 4) (v := ?_) rfl (by kernel_rfl) (by kernel_rfl) (by kernel_rfl) (fun _ _ _ h => h) (Or.inl ⟨by rfl, ?_⟩) (by assumption) ?_
 rotate_left
 ·(intro w' hS; (try dsimp only at hS); go_simp; try with_reducible rfl)
 try simp only [Act.put, List.getElem_toArray, List.getElem_cons_succ, List.getElem_cons_zero, List.setIfInBounds_toArray, List.set_cons_zero, List.set_cons_succ]
 refine wpAnyH_ready (rs := [2]) (by kernel_rfl) (by simp) ?_
 refine AllReadyH.cons rfl (fun K hK => ?_) AllReadyH.nil
 go_simp
 refine (HH.out _ S1.out.1).mono ?_
 rintro e wx ⟨hs, A1, n1, c1, r1, l1, rfl, hown1, hb1⟩
 have S2 := Lib.hid (S1.out.on hb1)
 have Q1 := Lib.hid (rowB_own hown1)
 have HR1 := Lib.hid r1
 have HL1 := Lib.hid l1
 clear S1 HH hown1 hb1 r1 l1
 go_wp2_with fail
 refine hK.out _ _ (S2.out.2.c0) (fun hHeld => ?_)
 clear hK K
 try simp only [Act.put, List.getElem_toArray, List.getElem_cons_succ, List.getElem_cons_zero, List.setIfInBounds_toArray, List.set_cons_zero, List.set_cons_succ]
 refine wpAnyH_ready (rs := [5]) (by kernel_rfl) (by simp) ?_
 refine AllReadyH.cons rfl (fun K hK => ?_) AllReadyH.nil
 go_simp
 refine (HG.out _ S2.out.1).mono ?_
 rintro e wy ⟨gs, A2, n2, c2, r2, l2, rfl, hown2, hb2⟩
 have S3 := Lib.hid (S2.out.on hb2)
 have Q2 := Lib.hid ((Q1.out.below hb2 (Nat.le_refl _)).mono hb2.size)
 have Q3 := Lib.hid (rowB_own hown2)
 have HR2 := Lib.hid r2
 have HL2 := Lib.hid l2
 clear S2 HG hown2 hb2 r2 l2 Q1
 go_wp2_with fail
 refine hK.out _ _ (S3.out.2.c0) (fun hHeld => ?_)
 clear hK K
 try simp only [Act.put, List.getElem_toArray, List.getElem_cons_succ, List.getElem_cons_zero, List.setIfInBounds_toArray, List.set_cons_zero, List.set_cons_succ]
 refine wpAnyH_take (i := 6) (v := ?_) rfl (by kernel_rfl) (by kernel_rfl) (by kernel_rfl) (fun _ _ _ h => h) (Or.inl ⟨by rfl, ?_⟩) (by assumption) ?_
 rotate_left
 ·(intro w' hS; (try dsimp only at hS); go_simp; try with_reducible rfl)
 try simp only [Act.put, List.getElem_toArray, List.getElem_cons_succ, List.getElem_cons_zero, List.setIfInBounds_toArray, List.set_cons_zero, List.set_cons_succ]
 refine wpAnyH_take (i := 7) (v := ?_) rfl (by kernel_rfl) (by kernel_rfl) (by kernel_rfl) (fun _ _ _ h => h) (Or.inl ⟨by rfl, ?_⟩) (by assumption) ?_
 rotate_left
 ·(intro w' hS; (try dsimp only at hS); go_simp; try with_reducible rfl)
 try simp only [Act.put, List.getElem_toArray, List.getElem_cons_succ, List.getElem_cons_zero, List.setIfInBounds_toArray, List.set_cons_zero, List.set_cons_succ]
 refine wpAnyH_done (by kernel_rfl) ?_ _
 refine NoPanic.normal ?_
 clear hHeld
 rcases rows_two HR1.out HR2.out with hno | t
 ·have HE := Lib.hid (show HbP xs L M w (.returned (.tuple #[.slice none 0 0, .slice none 0 0, .bool false])) wy from ⟨hs, gs, HR1.out, HR2.out, S3.out.1, .inl ⟨hno, rfl⟩⟩)
  by_cases h1 : n1 = 0
  ·subst h1
   have q1 : (((0 : Nat) : Int) == 0) = true := rfl
   clear hno
   go_wp2
   exact bodyPost_ret (v := .tuple #[.slice none 0 0, .slice none 0 0, .bool false]) (by simp [results, Tryz.results30, go_sem]) rfl HE.out
  ·have q1 : (((n1 : Nat) : Int) == 0) = false := by simp; omega
   have h2 : n2 = 0 := by
    have a1 := HL1.out; have a2 := HL2.out
    rcases hno with e | e
    ·subst e; simp at a1; omega
    ·subst e; simp at a2; omega
   subst h2
   have q2 : (((0 : Nat) : Int) == 0) = true := rfl
   clear hno
   go_wp2
   exact bodyPost_ret (v := .tuple #[.slice none 0 0, .slice none 0 0, .bool false]) (by simp [results, Tryz.results30, go_sem]) rfl HE.out
 ·have h1 : n1 = 81 := by have := HL1.out; have := t.lh; omega
  have h2 : n2 = 81 := by have := HL2.out; have := t.lg; omega
  subst h1; subst h2
  have q1 : (((81 : Nat) : Int) == 0) = false := rfl
  have HE := Lib.hid (show HbP xs L M w (.returned (.tuple #[.slice A1 81 c1, .slice A2 81 c2, .bool true])) wy from ⟨hs, gs, HR1.out, HR2.out, S3.out.1, .inr ⟨t, A1, c1, A2, c2, rfl, Q2.out, Q3.out⟩⟩)
  clear t
  go_wp2
  exact bodyPost_ret (v := .tuple #[.slice A1 81 c1, .slice A2 81 c2, .bool true]) (by simp [results, Tryz.results30, go_sem]) rfl HE.out

end Go.Proofs.YtmajllgfmclcoaaGreat.Jn
