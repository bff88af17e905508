/- JoI in one text. -/
import Derived.Test.YtmajllgfmclcoaaGreatDoorMd27
import Derived.Test.YtmajllgfmclcoaaGreatDoorMd31
import Derived.Deep.DeepAppendRoom
set_option linter.unusedVariables false
set_option linter.unusedSimpArgs false
set_option maxRecDepth 100000
namespace Go.Proofs.YtmajllgfmclcoaaGreatDoor.Jn
open Go.RowKit Base Go.Proofs.YtmajllgfmclcoaaGreatDoor.Cell Dms Til Hgt Go.Joins Go.Deep
open Reg (ints intInfo RowB rowB_own own_below own_base)
open Cor (iHeightsOf iEqualI)
theorem ints_snoc' (h : List Int) (y : Int) : ints (h ++ [y]) = ints h ++ [.int .i64 y] := by unfold Reg.ints; simp
theorem row_at1 {W : World} {A : Option Addr} {xs : List Int} (r : RowB W W.heap.size A xs) {k : Nat} (hk : k < xs.length) : ∃ b off, A = some ⟨b, off, none⟩ ∧ b < W.heap.size ∧ W.cell? ⟨b, off + k, none⟩ = some (.int .i64 (ht xs k)) := by
 obtain ⟨b, off, h1, h2⟩ := r
 exact ⟨b, off, (h1 (by omega)).1, (h1 (by omega)).2, by rw [ht_at hk]; exact h2 k _ (List.getElem?_eq_getElem hk)⟩
def ChP (Z : List Int) (n : Nat) (w : World) (e : Ending) (w' : World) : Prop := ∃ (A : Option Addr) (c : Nat), e = .returned (.slice A n c) ∧ w'.ownsRow w.heap.size 3 1 (.slice A n c) n (ints Z) ∧ Below w.heap.size w w'
set_option maxHeartbeats 400000 in
theorem iLesser (x y : Int) (w : World) : Calls Tryz.prog 29 #[.int .i64 x, .int .i64 y] w fun e w' => e = .returned (.int .i64 (min x y)) ∧ w = w' := by
 have H : ∀ v : Int, v = min x y → Ending.returned (.int .i64 v) = .returned (.int .i64 (min x y)) := fun v h => by rw [h]
 have HH := Lh H
 clear H
 go_enter Tryz.func29, Tryz.ntmps29
 go_wp2
 all_goals
  go_ret
  refine ⟨HH.out _ ?_, rfl⟩
  omega
set_option maxHeartbeats 4000000 in
theorem iChosenLesser (w : World) (A : Option Addr) (n cap B : Nat) (hs : List Int) (hl : hs.length = n) (h : RowB w B A hs) (hB : B ≤ w.heap.size) (A' : Option Addr) (cap' B' : Nat) (gs : List Int) (hl' : gs.length = n) (h' : RowB w B' A' gs) (hB' : B' ≤ w.heap.size) (h81 : n = 81) :
  Calls Tryz.prog 34 #[.slice A n cap, .slice A' n cap', .func (.func 29) #[] #[]] w (ChP (List.zipWith min hs gs) n w) := by
 obtain ⟨i0, hi, hz0, hz1, hz2⟩ := info_parts intInfo
 have HLs := Lh (fun x y W => iLesser x y W)
 have HZ := Lh (fun k (hk : k < n) => show (List.zipWith min hs gs).take (k + 1) = (List.zipWith min hs gs).take k ++ [min (ht hs k) (ht gs k)] from by rw [ht_at (show k < hs.length by omega), ht_at (show k < gs.length by omega)]; exact zw_take min (hl.trans h81) (hl'.trans h81) (by omega))
 have HZa := Lh (show (List.zipWith min hs gs).take n = List.zipWith min hs gs by rw [h81]; exact zw_all min (hl.trans h81) (hl'.trans h81))
 have HX := Lh (fun W (hb : Below w.heap.size w W) k (hk : k < n) => row_at1 ((h.below hb hB).mono (by have := hb.size; omega)) (k := k) (by omega))
 have HY := Lh (fun W (hb : Below w.heap.size w W) k (hk : k < n) => row_at1 ((h'.below hb hB').mono (by have := hb.size; omega)) (k := k) (by omega))
 have HL1 := Lh hl
 have HL2 := Lh hl'
 generalize List.zipWith min hs gs = Z at HZ HZa ⊢
 have hn1 : n ≤ 81 := by omega
 clear h h' hl hl' h81 hB hB'
 go_enter Tryz.func34, Tryz.ntmps34
 go_wp2_with (first
  | (at_make; refine wpList_make_own _ rfl _ _ 24 rfl w.heap.size 3 i0 (.int .i64 0) 1 Tryz.underlying24 hi hz0 hz1 .i64 .i64 (n : Int) n rfl rfl rfl (by rw [hz2]; omega) (by unfold maxLen; omega) NR ?_; intro w1 hown1 hg1))
 have HO := Lh hown1
 have HB := Lh (show Below w.heap.size w w1 from (Below.refl _ _).grown hg1 NR (by simp))
 clear hown1 hg1
 go_loopw [7, 14] (fun u i wr => ∃ k : Nat, k ≤ n ∧ i = .int .i64 k ∧ Hid (Below w.heap.size w wr) ∧ Hid (wr.ownsRow w.heap.size 3 1 u k (ints (Z.take k)))) (fun _ i _ => n - (intOf i).toNat)
 case atStart => exact ⟨0, Nat.zero_le _, rfl, HB, by rw [List.take_zero]; exact HO⟩
 case round =>
  clear HB HO
  obtain ⟨k, hk, rfl, HB, HO⟩ := hrel
  by_cases hlt : k < n
  ·have hltI : (k : Int) < (n : Int) := by omega
   have hZ := HZ.out k hlt
   obtain ⟨b1, o1, rfl, hb1, -⟩ := HX.out _ HB.out k hlt
   obtain ⟨b2, o2, rfl, hb2, -⟩ := HY.out _ HB.out k hlt
   have HC1 := Lh (fun W (hb : Below w.heap.size w W) => show W.cell? ⟨b1, o1 + k, none⟩ = some (.int .i64 (ht hs k)) from by
    obtain ⟨b, o, e, _, c⟩ := HX.out W hb k hlt
    injection e with e; injection e with e1 e2
    subst e1; subst e2; exact c)
   have HC2 := Lh (fun W (hb : Below w.heap.size w W) => show W.cell? ⟨b2, o2 + k, none⟩ = some (.int .i64 (ht gs k)) from by
    obtain ⟨b, o, e, _, c⟩ := HY.out W hb k hlt
    injection e with e; injection e with e1 e2
    subst e1; subst e2; exact c)
   generalize ht hs k = x at hZ HC1
   generalize ht gs k = y at hZ HC2
   have HZk := Lh hZ
   have hk81 : k < 81 := by omega
   clear hZ hb1 hb2
   have hmm : ∃ z, min x y = z := ⟨_, rfl⟩
   obtain ⟨z, hz⟩ := hmm
   rw [hz] at HZk
   have HLz := Lh (fun W => show Calls Tryz.prog 29 #[.int .i64 x, .int .i64 y] W (fun e w' => e = .returned (.int .i64 z) ∧ W = w') from hz ▸ HLs.out x y W)
   clear hz
   go_wp2_with fail
   refine wp_region_noPanic ?_
   refine wp_region_held_drew (S := (fun w' => w'.cell? ⟨b1, o1 + k, none⟩ = some (.int .i64 x) ∧ w'.cell? ⟨b2, o2 + k, none⟩ = some (.int .i64 y))) (by kernel_rfl) (⟨HC1.out _ HB.out.drew, HC2.out _ HB.out.drew⟩) (fun hHeld => ?_)
   have HB1 := Lh HB.out.drew
   have HO1 := Lh (show wr.drew.ownsRow w.heap.size 3 1 u7 k (ints (Z.take k)) from HO.out)
   clear HB HO
   generalize wr.drew = W1 at HB1 HO1 hHeld ⊢
   refine tk 0 ?_; try simp only [Act.put, zk]
   refine tk 1 ?_; try simp only [Act.put, zk]
   refine tk 2 ?_; try simp only [Act.put, zk]
   refine tk 3 ?_; try simp only [Act.put, zk]
   refine tk 4 ?_; try simp only [Act.put, zk]
   refine tk 5 ?_; try simp only [Act.put, zk]
   refine tk 6 ?_; try simp only [Act.put, zk]
   refine tk 7 ?_; try simp only [Act.put, zk]
   refine tk 8 ?_; try simp only [Act.put, zk]
   refine tk 9 ?_; try simp only [Act.put, zk]
   refine tr 10 fun K hK => ?_
   go_simp
   refine (HLz.out _).mono ?_
   rintro e wx ⟨rfl, rfl⟩
   go_wp2_with fail
   refine hK.out _ _ (⟨HC1.out _ HB1.out, HC2.out _ HB1.out⟩) (fun hHeld => ?_)
   clear hK K
   try simp only [Act.put, zk]
   refine tr 11 fun K hK => ?_
   go_simp
   have HB2 := Lh (HB1.out.trans ((below_alloc1 W1 (.cells #[.int .i64 z] 3)).mono HB1.out.size))
   have HO2 := Lh (HO1.out.alloc (.cells #[.int .i64 z] 3))
   refine hK.out _ _ (⟨HC1.out _ HB2.out, HC2.out _ HB2.out⟩) (fun hHeld => ?_)
   clear hK K
   try simp only [Act.put, zk]
   refine tr 12 fun K hK => ?_
   refine step_append_lies _ (by rfl) _ _ 24 (by rfl) w.heap.size 3 i0 (.int .i64 0) 1 8 Tryz.underlying24 hi hz0 hz1 hz2 rfl (by decide) u7 k (ints (Z.take k)) (by rfl) HO2.out ⟨W1.heap.size, 0, none⟩ 1 1 [.int .i64 z] (by rfl) rfl (World.news_of_block (cs := #[.int .i64 z]) (t := 3) (fr := (0, 0)) (heap_alloc_new W1 _)) (by simp [Value.oneCell']) (by omega) (by unfold maxLen; omega) (by omega) (by have := HB1.out.size; simp; omega) _ rfl ?_
   intro g c w7 hown7 hg7 hwh7 hlt7
   have HO7 := Lh (show w7.ownsRow w.heap.size 3 1 (.slice (some ⟨g, 0, none⟩) (k + 1) c) (k + 1) (ints (Z.take (k + 1))) by rw [HZk.out, ints_snoc']; exact hown7)
   have HB7 := Lh (HB2.out.grown hg7 HB2.out.size (fun q hq => (HO2.out.lt q hq).1))
   clear hown7 hg7 hwh7 hlt7
   refine hK.out _ _ (⟨HC1.out _ HB7.out, HC2.out _ HB7.out⟩) (fun hHeld => ?_)
   clear hK K
   try simp only [Act.put, zk]
   refine tk 13 ?_; try simp only [Act.put, zk]
   refine wpAnyH_done (by kernel_rfl) (NoPanic.normal ?_) _
   clear hHeld
   go_wp2
   go_roundw
   case rel => exact ⟨k + 1, by omega, by go_num, HB7, HO7⟩
   case measure => (simp [intOf] <;> omega)
  ·obtain rfl : k = n := by omega
   obtain ⟨A2, cap2, rfl⟩ := own_shape HO.out
   have HE := Lh (show _ from HZa.out ▸ HO.out)
   go_wp2
   go_ret
   exact ⟨A2, cap2, rfl, HE.out, HB.out⟩
set_option maxHeartbeats 400000 in
theorem iGreater (x y : Int) (w : World) : Calls Tryz.prog 30 #[.int .i64 x, .int .i64 y] w fun e w' => e = .returned (.int .i64 (max x y)) ∧ w = w' := by
 have H : ∀ v : Int, v = max x y → Ending.returned (.int .i64 v) = .returned (.int .i64 (max x y)) := fun v h => by rw [h]
 have HH := Lh H
 clear H
 go_enter Tryz.func30, Tryz.ntmps30
 go_wp2
 all_goals
  go_ret
  refine ⟨HH.out _ ?_, rfl⟩
  omega
set_option maxHeartbeats 4000000 in
theorem iChosenGreater (w : World) (A : Option Addr) (n cap B : Nat) (hs : List Int) (hl : hs.length = n) (h : RowB w B A hs) (hB : B ≤ w.heap.size) (A' : Option Addr) (cap' B' : Nat) (gs : List Int) (hl' : gs.length = n) (h' : RowB w B' A' gs) (hB' : B' ≤ w.heap.size) (h81 : n = 81) :
  Calls Tryz.prog 34 #[.slice A n cap, .slice A' n cap', .func (.func 30) #[] #[]] w (ChP (List.zipWith max hs gs) n w) := by
 obtain ⟨i0, hi, hz0, hz1, hz2⟩ := info_parts intInfo
 have HLs := Lh (fun x y W => iGreater x y W)
 have HZ := Lh (fun k (hk : k < n) => show (List.zipWith max hs gs).take (k + 1) = (List.zipWith max hs gs).take k ++ [max (ht hs k) (ht gs k)] from by rw [ht_at (show k < hs.length by omega), ht_at (show k < gs.length by omega)]; exact zw_take max (hl.trans h81) (hl'.trans h81) (by omega))
 have HZa := Lh (show (List.zipWith max hs gs).take n = List.zipWith max hs gs by rw [h81]; exact zw_all max (hl.trans h81) (hl'.trans h81))
 have HX := Lh (fun W (hb : Below w.heap.size w W) k (hk : k < n) => row_at1 ((h.below hb hB).mono (by have := hb.size; omega)) (k := k) (by omega))
 have HY := Lh (fun W (hb : Below w.heap.size w W) k (hk : k < n) => row_at1 ((h'.below hb hB').mono (by have := hb.size; omega)) (k := k) (by omega))
 have HL1 := Lh hl
 have HL2 := Lh hl'
 generalize List.zipWith max hs gs = Z at HZ HZa ⊢
 have hn1 : n ≤ 81 := by omega
 clear h h' hl hl' h81 hB hB'
 go_enter Tryz.func34, Tryz.ntmps34
 go_wp2_with (first
  | (at_make; refine wpList_make_own _ rfl _ _ 24 rfl w.heap.size 3 i0 (.int .i64 0) 1 Tryz.underlying24 hi hz0 hz1 .i64 .i64 (n : Int) n rfl rfl rfl (by rw [hz2]; omega) (by unfold maxLen; omega) NR ?_; intro w1 hown1 hg1))
 have HO := Lh hown1
 have HB := Lh (show Below w.heap.size w w1 from (Below.refl _ _).grown hg1 NR (by simp))
 clear hown1 hg1
 go_loopw [7, 14] (fun u i wr => ∃ k : Nat, k ≤ n ∧ i = .int .i64 k ∧ Hid (Below w.heap.size w wr) ∧ Hid (wr.ownsRow w.heap.size 3 1 u k (ints (Z.take k)))) (fun _ i _ => n - (intOf i).toNat)
 case atStart => exact ⟨0, Nat.zero_le _, rfl, HB, by rw [List.take_zero]; exact HO⟩
 case round =>
  clear HB HO
  obtain ⟨k, hk, rfl, HB, HO⟩ := hrel
  by_cases hlt : k < n
  ·have hltI : (k : Int) < (n : Int) := by omega
   have hZ := HZ.out k hlt
   obtain ⟨b1, o1, rfl, hb1, -⟩ := HX.out _ HB.out k hlt
   obtain ⟨b2, o2, rfl, hb2, -⟩ := HY.out _ HB.out k hlt
   have HC1 := Lh (fun W (hb : Below w.heap.size w W) => show W.cell? ⟨b1, o1 + k, none⟩ = some (.int .i64 (ht hs k)) from by
    obtain ⟨b, o, e, _, c⟩ := HX.out W hb k hlt
    injection e with e; injection e with e1 e2
    subst e1; subst e2; exact c)
   have HC2 := Lh (fun W (hb : Below w.heap.size w W) => show W.cell? ⟨b2, o2 + k, none⟩ = some (.int .i64 (ht gs k)) from by
    obtain ⟨b, o, e, _, c⟩ := HY.out W hb k hlt
    injection e with e; injection e with e1 e2
    subst e1; subst e2; exact c)
   generalize ht hs k = x at hZ HC1
   generalize ht gs k = y at hZ HC2
   have HZk := Lh hZ
   have hk81 : k < 81 := by omega
   clear hZ hb1 hb2
   have hmm : ∃ z, max x y = z := ⟨_, rfl⟩
   obtain ⟨z, hz⟩ := hmm
   rw [hz] at HZk
   have HLz := Lh (fun W => show Calls Tryz.prog 30 #[.int .i64 x, .int .i64 y] W (fun e w' => e = .returned (.int .i64 z) ∧ W = w') from hz ▸ HLs.out x y W)
   clear hz
   go_wp2_with fail
   refine wp_region_noPanic ?_
   refine wp_region_held_drew (S := (fun w' => w'.cell? ⟨b1, o1 + k, none⟩ = some (.int .i64 x) ∧ w'.cell? ⟨b2, o2 + k, none⟩ = some (.int .i64 y))) (by kernel_rfl) (⟨HC1.out _ HB.out.drew, HC2.out _ HB.out.drew⟩) (fun hHeld => ?_)
   have HB1 := Lh HB.out.drew
   have HO1 := Lh (show wr.drew.ownsRow w.heap.size 3 1 u7 k (ints (Z.take k)) from HO.out)
   clear HB HO
   generalize wr.drew = W1 at HB1 HO1 hHeld ⊢
   refine tk 0 ?_; try simp only [Act.put, zk]
   refine tk 1 ?_; try simp only [Act.put, zk]
   refine tk 2 ?_; try simp only [Act.put, zk]
   refine tk 3 ?_; try simp only [Act.put, zk]
   refine tk 4 ?_; try simp only [Act.put, zk]
   refine tk 5 ?_; try simp only [Act.put, zk]
   refine tk 6 ?_; try simp only [Act.put, zk]
   refine tk 7 ?_; try simp only [Act.put, zk]
   refine tk 8 ?_; try simp only [Act.put, zk]
   refine tk 9 ?_; try simp only [Act.put, zk]
   refine tr 10 fun K hK => ?_
   go_simp
   refine (HLz.out _).mono ?_
   rintro e wx ⟨rfl, rfl⟩
   go_wp2_with fail
   refine hK.out _ _ (⟨HC1.out _ HB1.out, HC2.out _ HB1.out⟩) (fun hHeld => ?_)
   clear hK K
   try simp only [Act.put, zk]
   refine tr 11 fun K hK => ?_
   go_simp
   have HB2 := Lh (HB1.out.trans ((below_alloc1 W1 (.cells #[.int .i64 z] 3)).mono HB1.out.size))
   have HO2 := Lh (HO1.out.alloc (.cells #[.int .i64 z] 3))
   refine hK.out _ _ (⟨HC1.out _ HB2.out, HC2.out _ HB2.out⟩) (fun hHeld => ?_)
   clear hK K
   try simp only [Act.put, zk]
   refine tr 12 fun K hK => ?_
   refine step_append_lies _ (by rfl) _ _ 24 (by rfl) w.heap.size 3 i0 (.int .i64 0) 1 8 Tryz.underlying24 hi hz0 hz1 hz2 rfl (by decide) u7 k (ints (Z.take k)) (by rfl) HO2.out ⟨W1.heap.size, 0, none⟩ 1 1 [.int .i64 z] (by rfl) rfl (World.news_of_block (cs := #[.int .i64 z]) (t := 3) (fr := (0, 0)) (heap_alloc_new W1 _)) (by simp [Value.oneCell']) (by omega) (by unfold maxLen; omega) (by omega) (by have := HB1.out.size; simp; omega) _ rfl ?_
   intro g c w7 hown7 hg7 hwh7 hlt7
   have HO7 := Lh (show w7.ownsRow w.heap.size 3 1 (.slice (some ⟨g, 0, none⟩) (k + 1) c) (k + 1) (ints (Z.take (k + 1))) by rw [HZk.out, ints_snoc']; exact hown7)
   have HB7 := Lh (HB2.out.grown hg7 HB2.out.size (fun q hq => (HO2.out.lt q hq).1))
   clear hown7 hg7 hwh7 hlt7
   refine hK.out _ _ (⟨HC1.out _ HB7.out, HC2.out _ HB7.out⟩) (fun hHeld => ?_)
   clear hK K
   try simp only [Act.put, zk]
   refine tk 13 ?_; try simp only [Act.put, zk]
   refine wpAnyH_done (by kernel_rfl) (NoPanic.normal ?_) _
   clear hHeld
   go_wp2
   go_roundw
   case rel => exact ⟨k + 1, by omega, by go_num, HB7, HO7⟩
   case measure => (simp [intOf] <;> omega)
  ·obtain rfl : k = n := by omega
   obtain ⟨A2, cap2, rfl⟩ := own_shape HO.out
   have HE := Lh (show _ from HZa.out ▸ HO.out)
   go_wp2
   go_ret
   exact ⟨A2, cap2, rfl, HE.out, HB.out⟩
def HbP (xs : List Int) (L M : List Dm) (w : World) (e : Ending) (w' : World) : Prop :=
 ∃ hs gs, hgtR xs L hs ∧ hgtR xs M gs ∧ Below w.heap.size w w' ∧ (((hs = [] ∨ gs = []) ∧ e = .returned (.tuple #[.slice none 0 0, .slice none 0 0, .bool false])) ∨
  (Two xs L M hs gs ∧ ∃ A c A' c', e = .returned (.tuple #[.slice A 81 c, .slice A' 81 c', .bool true]) ∧ RowB w' w'.heap.size A hs ∧ RowB w' w'.heap.size A' gs))
set_option maxHeartbeats 4000000 in
theorem iBoth (w : World) (A : Option Addr) (n cap B : Nat) (xs : List Int) (hx : xs.length = n) (hn : (n : Int) ≤ 9223372036854775807) (h : RowB w B A xs) (hB : B ≤ w.heap.size)
  (A' : Option Addr) (n' cap' B' : Nat) (L : List Dm) (hL : L.length = n') (hn' : (n' : Int) ≤ 9223372036854775807) (hf : Fits L) (h' : RowM w B' A' L) (hB' : B' ≤ w.heap.size) (hcap : n' ≤ cap')
  (A'' : Option Addr) (n'' cap'' B'' : Nat) (M : List Dm) (hM : M.length = n'') (hn'' : (n'' : Int) ≤ 9223372036854775807) (hf' : Fits M) (h'' : RowM w B'' A'' M) (hB'' : B'' ≤ w.heap.size) (hcap' : n'' ≤ cap'') :
  Calls Tryz.prog 32 #[.agg #[.slice A n cap], .slice A' n' cap', .slice A'' n'' cap''] w (HbP xs L M w) := by
 have HS := Lh (r1_start w (.slice A n cap))
 have HH := Lh (fun W (hb : Below w.heap.size w W) => iHeightsOf W A n cap B xs hx hn (h.below hb hB) (by have := hb.size; omega) A' n' cap' B' L hL hn' hf (h'.below hb hB') (by have := hb.size; omega) hcap)
 have HG := Lh (fun W (hb : Below w.heap.size w W) => iHeightsOf W A n cap B xs hx hn (h.below hb hB) (by have := hb.size; omega) A'' n'' cap'' B'' M hM hn'' hf' (h''.below hb hB'') (by have := hb.size; omega) hcap')
 clear hx hn h hB hL hn' h' hB' hf hcap hM hn'' h'' hB'' hf' hcap'
 go_enter Tryz.func32, Tryz.ntmps32
 go_upto_region 1 with fail
 have S0 := Lh (HS.out)
 generalize w.alloc (.cells #[.slice A n cap] 26) = W0 at S0 ⊢
 refine wp_region_noPanic ?_
 refine wp_region_held_drew (S := (fun w' => w'.cell? ⟨w.heap.size, 0, none⟩ = some (.slice A n cap))) (by kernel_rfl) (show W0.drew.cell? _ = _ from S0.out.2.c0) (fun hHeld => ?_)
 have S1 := Lh (show R1 w (.slice A n cap) W0.drew from ⟨S0.out.1.drew, S0.out.2⟩)
 clear HS S0
 generalize W0.drew = W1 at S1 hHeld ⊢
 refine tk 0 ?_; try simp only [Act.put, zk]
 refine tk 1 ?_; try simp only [Act.put, zk]
 refine tk 3 ?_; try simp only [Act.put, zk]
 refine tk 4 ?_; try simp only [Act.put, zk]
 refine tr 2 fun K hK => ?_
 go_simp
 refine (HH.out _ S1.out.1).mono ?_
 rintro e wx ⟨hs, A1, n1, c1, r1, l1, rfl, hown1, hb1⟩
 have S2 := Lh (S1.out.on hb1)
 have Q1 := Lh (rowB_own hown1)
 have HR1 := Lh r1
 have HL1 := Lh l1
 clear S1 HH hown1 hb1 r1 l1
 go_wp2_with fail
 refine hK.out _ _ (S2.out.2.c0) (fun hHeld => ?_)
 clear hK K
 try simp only [Act.put, zk]
 refine tr 5 fun K hK => ?_
 go_simp
 refine (HG.out _ S2.out.1).mono ?_
 rintro e wy ⟨gs, A2, n2, c2, r2, l2, rfl, hown2, hb2⟩
 have S3 := Lh (S2.out.on hb2)
 have Q2 := Lh ((Q1.out.below hb2 NR).mono hb2.size)
 have Q3 := Lh (rowB_own hown2)
 have HR2 := Lh r2
 have HL2 := Lh l2
 clear S2 HG hown2 hb2 r2 l2 Q1
 go_wp2_with fail
 refine hK.out _ _ (S3.out.2.c0) (fun hHeld => ?_)
 clear hK K
 try simp only [Act.put, zk]
 refine tk 6 ?_; try simp only [Act.put, zk]
 refine tk 7 ?_; try simp only [Act.put, zk]
 refine wpAnyH_done (by kernel_rfl) (NoPanic.normal ?_) _
 clear hHeld
 rcases rows_two HR1.out HR2.out with hno | t
 ·have HE := Lh (show HbP xs L M w (.returned (.tuple #[.slice none 0 0, .slice none 0 0, .bool false])) wy from ⟨hs, gs, HR1.out, HR2.out, S3.out.1, .inl ⟨hno, rfl⟩⟩)
  by_cases h1 : n1 = 0
  ·subst h1
   have q1 : (((0 : Nat) : Int) == 0) = true := rfl
   clear hno
   go_wp2
   exact bodyPost_ret (v := .tuple #[.slice none 0 0, .slice none 0 0, .bool false]) (by simp [results, Tryz.results32, go_sem]) rfl HE.out
  ·have q1 : (((n1 : Nat) : Int) == 0) = false := by simp; omega
   have h2 : n2 = 0 := by
    have a1 := HL1.out; have a2 := HL2.out
    rcases hno with e | e
    ·subst e; simp at a1; omega
    ·subst e; simp at a2; omega
   subst h2
   have q2 : (((0 : Nat) : Int) == 0) = true := rfl
   clear hno
   go_wp2
   exact bodyPost_ret (v := .tuple #[.slice none 0 0, .slice none 0 0, .bool false]) (by simp [results, Tryz.results32, go_sem]) rfl HE.out
 ·have h1 : n1 = 81 := by have := HL1.out; have := t.lh; omega
  have h2 : n2 = 81 := by have := HL2.out; have := t.lg; omega
  subst h1; subst h2
  have q1 : (((81 : Nat) : Int) == 0) = false := rfl
  have HE := Lh (show HbP xs L M w (.returned (.tuple #[.slice A1 81 c1, .slice A2 81 c2, .bool true])) wy from ⟨hs, gs, HR1.out, HR2.out, S3.out.1, .inr ⟨t, A1, c1, A2, c2, rfl, Q2.out, Q3.out⟩⟩)
  clear t
  go_wp2
  exact bodyPost_ret (v := .tuple #[.slice A1 81 c1, .slice A2 81 c2, .bool true]) (by simp [results, Tryz.results32, go_sem]) rfl HE.out
set_option maxHeartbeats 4000000 in
theorem iIsBelow (w : World) (A : Option Addr) (n cap B : Nat) (xs : List Int) (hx : xs.length = n) (hn : (n : Int) ≤ 9223372036854775807) (h : RowB w B A xs) (hB : B ≤ w.heap.size)
  (A' : Option Addr) (n' cap' B' : Nat) (L : List Dm) (hL : L.length = n') (hn' : (n' : Int) ≤ 9223372036854775807) (hf : Fits L) (h' : RowM w B' A' L) (hB' : B' ≤ w.heap.size) (hcap : n' ≤ cap')
  (A'' : Option Addr) (n'' cap'' B'' : Nat) (M : List Dm) (hM : M.length = n'') (hn'' : (n'' : Int) ≤ 9223372036854775807) (hf' : Fits M) (h'' : RowM w B'' A'' M) (hB'' : B'' ≤ w.heap.size) (hcap' : n'' ≤ cap'') :
  Calls Tryz.prog 15 #[.agg #[.slice A n cap], .slice A' n' cap', .slice A'' n'' cap''] w (BelP xs L M w) := by
 have HS := Lh (r1_start w (.slice A n cap))
 have HBo := Lh (fun W (hb : Below w.heap.size w W) => iBoth W A n cap B xs hx hn (h.below hb hB) (by have := hb.size; omega) A' n' cap' B' L hL hn' hf (h'.below hb hB') (by have := hb.size; omega) hcap A'' n'' cap'' B'' M hM hn'' hf' (h''.below hb hB'') (by have := hb.size; omega) hcap')
 clear hx hn h hB hL hn' h' hB' hf hcap hM hn'' h'' hB'' hf' hcap'
 go_enter Tryz.func15, Tryz.ntmps15
 go_wp2_with fail
 have c0 := HS.out.2.c0
 refine (HBo.out _ HS.out.1).mono ?_
 rintro e w1 ⟨hs, gs, r1, r2, hb1, ⟨hno, rfl⟩ | ⟨t, A1, c1, A2, c2, rfl, Q1, Q2⟩⟩
 ·have HB := Lh (HS.out.1.trans (hb1.mono HS.out.1.size))
  have HE := Lh (bel_no r1 r2 hno)
  clear HS HBo hb1 r1 r2 hno c0
  go_wp2
  go_ret
  exact ⟨false, rfl, HE.out, HB.out⟩
 ·have HB := Lh (HS.out.1.trans (hb1.mono HS.out.1.size))
  have HE := Lh (bel_min r1 r2 t)
  have HCh := Lh (iChosenLesser w1 A1 81 c1 w1.heap.size hs t.lh Q1 NR A2 c2 w1.heap.size gs t.lg Q2 NR rfl)
  have HEq := Lh (fun W (hb : Below w1.heap.size w1 W) A5 c5 (r : RowB W W.heap.size A5 (List.zipWith min hs gs)) => iEqualI W A5 A1 81 81 c5 c1 W.heap.size W.heap.size (List.zipWith min hs gs) hs (zw_len min t.lh t.lg) t.lh (by omega) r ((Q1.below hb NR).mono hb.size))
  generalize decide (List.zipWith min hs gs = hs) = q at HE HEq
  generalize List.zipWith min hs gs = Z at HCh HEq
  clear HS HBo hb1 r1 r2 t c0 Q1 Q2
  go_wp2_with fail
  refine HCh.out.mono ?_
  rintro e w2 ⟨A5, c5, rfl, hown, hb2⟩
  have HB2 := Lh (HB.out.trans (hb2.mono HB.out.size))
  have HEq2 := Lh (HEq.out w2 hb2 A5 c5 (rowB_own hown))
  clear HCh HEq hown hb2
  go_wp2_with fail
  refine HEq2.out.mono ?_
  rintro e w3 ⟨rfl, j, rfl⟩
  have HB3 := Lh (drewBelow HB2.out j)
  clear HEq2
  go_wp2
  go_ret
  exact ⟨q, rfl, HE.out, HB3.out⟩
set_option maxHeartbeats 4000000 in
theorem iStepsBetween (w : World) (A : Option Addr) (n cap B : Nat) (xs : List Int) (hx : xs.length = n) (hn : (n : Int) ≤ 9223372036854775807) (h : RowB w B A xs) (hB : B ≤ w.heap.size)
  (A' : Option Addr) (n' cap' B' : Nat) (L : List Dm) (hL : L.length = n') (hn' : (n' : Int) ≤ 9223372036854775807) (hf : Fits L) (h' : RowM w B' A' L) (hB' : B' ≤ w.heap.size) (hcap : n' ≤ cap')
  (A'' : Option Addr) (n'' cap'' B'' : Nat) (M : List Dm) (hM : M.length = n'') (hn'' : (n'' : Int) ≤ 9223372036854775807) (hf' : Fits M) (h'' : RowM w B'' A'' M) (hB'' : B'' ≤ w.heap.size) (hcap' : n'' ≤ cap'') :
  Calls Tryz.prog 12 #[.agg #[.slice A n cap], .slice A' n' cap', .slice A'' n'' cap''] w (StpP xs L M w) := by
 have HS := Lh (r1_start w (.slice A n cap))
 have HBo := Lh (fun W (hb : Below w.heap.size w W) => iBoth W A n cap B xs hx hn (h.below hb hB) (by have := hb.size; omega) A' n' cap' B' L hL hn' hf (h'.below hb hB') (by have := hb.size; omega) hcap A'' n'' cap'' B'' M hM hn'' hf' (h''.below hb hB'') (by have := hb.size; omega) hcap')
 clear hx hn h hB hL hn' h' hB' hf hcap hM hn'' h'' hB'' hf' hcap'
 go_enter Tryz.func12, Tryz.ntmps12
 go_wp2_with fail
 have c0 := HS.out.2.c0
 refine (HBo.out _ HS.out.1).mono ?_
 rintro e w1 ⟨hs, gs, r1, r2, hb1, ⟨hno, rfl⟩ | ⟨t, A1, c1, A2, c2, rfl, Q1, Q2⟩⟩
 ·have HB := Lh (HS.out.1.trans (hb1.mono HS.out.1.size))
  have HE := Lh (stp_no r1 r2 hno)
  clear HS HBo hb1 r1 r2 hno c0
  go_wp2
  go_ret
  exact ⟨-1, rfl, HE.out, HB.out⟩
 ·have HB := Lh (HS.out.1.trans (hb1.mono HS.out.1.size))
  obtain ⟨hd, hd1, hd2, hd3⟩ := high_low81 t.rh t.rg
  have HE := Lh (stp_of r1 r2 t (d := dst hs gs 81) rfl)
  have HCl := Lh (iChosenLesser w1 A1 81 c1 w1.heap.size hs t.lh Q1 NR A2 c2 w1.heap.size gs t.lg Q2 NR rfl)
  have HCg := Lh (fun W (hb : Below w1.heap.size w1 W) => iChosenGreater W A1 81 c1 W.heap.size hs t.lh ((Q1.below hb NR).mono hb.size) NR A2 c2 W.heap.size gs t.lg ((Q2.below hb NR).mono hb.size) NR rfl)
  have HSl := Lh (fun W A5 c5 (r : RowB W W.heap.size A5 (minR hs gs)) => iSum W A5 81 c5 W.heap.size (minR hs gs) (zw_len min t.lh t.lg) (by omega) r NR)
  have HSg := Lh (fun W A5 c5 (r : RowB W W.heap.size A5 (maxR hs gs)) => iSum W A5 81 c5 W.heap.size (maxR hs gs) (zw_len max t.lh t.lg) (by omega) r NR)
  change Hid (Calls _ _ _ _ (ChP (minR hs gs) 81 w1)) at HCl
  have HCg := Lh (fun W (hb : Below w1.heap.size w1 W) => show Calls _ _ _ _ (ChP (maxR hs gs) 81 W) from HCg.out W hb)
  generalize dst hs gs 81 = d at hd hd1 HE
  generalize sumH (minR hs gs) 81 = sl at hd hd2 hd3 HSl
  generalize sumH (maxR hs gs) 81 = sg at hd HSg
  generalize minR hs gs = Zl at HCl HSl
  generalize maxR hs gs = Zg at HCg HSg
  clear HS HBo hb1 r1 r2 t c0 Q1 Q2
  go_wp2_with fail
  refine HCl.out.mono ?_
  rintro e w2 ⟨A5, c5, rfl, hown, hb2⟩
  have HB2 := Lh (HB.out.trans (hb2.mono HB.out.size))
  have HSl2 := Lh (HSl.out w2 A5 c5 (rowB_own hown))
  have hbl := hb2
  clear HCl HSl hown HB
  go_wp2_with fail
  refine HSl2.out.mono ?_
  rintro e w3 ⟨rfl, hb3⟩
  have HB3 := Lh (HB2.out.trans (hb3.mono HB2.out.size))
  have HCg2 := Lh (HCg.out w3 (hbl.trans (hb3.mono hbl.size)))
  clear HSl2 HB2 HCg hb2 hb3 hbl
  go_wp2_with fail
  refine HCg2.out.mono ?_
  rintro e w4 ⟨A6, c6, rfl, hown, hb4⟩
  have HB4 := Lh (HB3.out.trans (hb4.mono HB3.out.size))
  have HSg2 := Lh (HSg.out w4 A6 c6 (rowB_own hown))
  clear HCg2 HSg hown HB3 hb4
  go_wp2_with fail
  refine HSg2.out.mono ?_
  rintro e w5 ⟨rfl, hb5⟩
  have HB5 := Lh (HB4.out.trans (hb5.mono HB4.out.size))
  clear HSg2 HB4 hb5
  have hw : IntKind.i64.wrap (sg - sl) = (d : Int) := by rw [IntKind.wrap_i64]; omega
  have hv := Lh (show wrap64 ((d : Int) / 4) = (d : Int) / 4 by unfold wrap64; omega)
  clear hd hd1 hd2 hd3
  go_wp2
  go_ret
  exact ⟨_, rfl, by rw [hv.out]; exact HE.out, HB5.out⟩
end Go.Proofs.YtmajllgfmclcoaaGreatDoor.Jn
