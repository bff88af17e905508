/- JoU in one text. -/
import Derived.Test.YtmajllgfmclcoaaGreatMc22
import Derived.Test.YtmajllgfmclcoaaGreatMc25
import Derived.Test.YtmajllgfmclcoaaGreatMc34
import Derived.Deep.DeepAppendRoom

namespace Go.Proofs.YtmajllgfmclcoaaGreat.Jn
set_option linter.unusedVariables false
set_option linter.unusedSimpArgs false
set_option maxRecDepth 100000
open Go.RowKit Go.Proofs.YtmajllgfmclcoaaGreat.Base Go.Proofs.YtmajllgfmclcoaaGreat.Dms Go.Proofs.YtmajllgfmclcoaaGreat.Til Go.Proofs.YtmajllgfmclcoaaGreat.Hgt Go.Joins Go.Deep
open Go.Proofs.YtmajllgfmclcoaaGreat.Reg (ints intInfo RowB rowB_own own_below own_base)
open Go.Proofs.YtmajllgfmclcoaaGreat.Cor (TfP)

theorem ints_snoc2 (h : List Int) (y : Int) : ints (h ++ [y]) = ints h ++ [.int .i64 y] := by unfold Reg.ints; simp
theorem row_at2 {W : World} {A : Option Addr} {xs : List Int} (r : RowB W W.heap.size A xs) {k : Nat} (hk : k < xs.length) : ∃ b off, A = some ⟨b, off, none⟩ ∧ b < W.heap.size ∧ W.cell? ⟨b, off + k, none⟩ = some (.int .i64 (ht xs k)) := by
 obtain ⟨b, off, h1, h2⟩ := r
 exact ⟨b, off, (h1 (by omega)).1, (h1 (by omega)).2, by rw [ht_at hk]; exact h2 k _ (List.getElem?_eq_getElem hk)⟩
theorem joi_none {m : Int → Int → Int} {xs : List Int} {L M : List Dm} {w W : World} (h : joinR m xs L M [] false) (hb : Below w.heap.size w W) : JoiP m xs L M w (.returned (.tuple #[.slice (some ⟨W.heap.size, 0, none⟩) 0 0, .bool false])) (W.alloc (.cells #[] 43)) :=
 ⟨[], false, some ⟨W.heap.size, 0, none⟩, 0, rfl, own_base (World.ownsRow_made (e := 43) (size := 3) W #[] 0 (Nat.le_refl _) (by unfold maxLen; omega) rfl) hb.size, h, Nat.le_refl _, hb.trans ((below_alloc1 W _).mono hb.size)⟩

set_option maxHeartbeats 4000000 in
theorem sJoinLowerOf (w : World) (A : Option Addr) (n cap B : Nat) (xs : List Int) (hx : xs.length = n) (hn : (n : Int) ≤ 9223372036854775807) (h : RowB w B A xs) (hB : B ≤ w.heap.size)
  (A' : Option Addr) (n' cap' B' : Nat) (L : List Dm) (hL : L.length = n') (hn' : (n' : Int) ≤ 9223372036854775807) (h' : RowM w B' A' L) (hB' : B' ≤ w.heap.size)
  (A'' : Option Addr) (n'' cap'' B'' : Nat) (M : List Dm) (hM : M.length = n'') (hn'' : (n'' : Int) ≤ 9223372036854775807) (h'' : RowM w B'' A'' M) (hB'' : B'' ≤ w.heap.size) :
  Calls Tryz.prog 19 #[.agg #[.slice A n cap], .slice A' n' cap', .slice A'' n'' cap'', .bool false] w (JoiP min xs L M w) := by
 obtain ⟨i0, hi, hz0, hz1, hz2⟩ := info_parts intInfo
 have HS := Lib.hid (r1_start w (.slice A n cap))
 have HH := Lib.hid (fun W (hb : Below w.heap.size w W) => sHeights W A n cap B xs hx hn (h.below hb hB) (by have := hb.size; omega) A' n' cap' B' L hL hn' (h'.below hb hB') (by have := hb.size; omega))
 have HG := Lib.hid (fun W (hb : Below w.heap.size w W) => sHeights W A n cap B xs hx hn (h.below hb hB) (by have := hb.size; omega) A'' n'' cap'' B'' M hM hn'' (h''.below hb hB'') (by have := hb.size; omega))
 have HTf := Lib.hid (fun W (hb : Below w.heap.size w W) A5 c5 (hs : List Int) (hl : hs.length = 81) (r : RowB W W.heap.size A5 hs) => sTilingFrom W A n cap B xs hx hn (h.below hb hB) (by have := hb.size; omega) A5 81 c5 W.heap.size hs hl (by omega) r (Nat.le_refl _))
 clear hx hn h hB hL hn' h' hB' hM hn'' h'' hB''
 have HMi := Lib.hid (fun (W : World) => World.ownsRow_made (e := 3) (size := 1) W #[] 0 (Nat.le_refl _) (by unfold maxLen; omega) rfl)
 go_enter Tryz.func19, Tryz.ntmps19
 go_wp2_with fail
 have c0 := HS.out.2.c0
 refine (HH.out _ HS.out.1).mono ?_
 rintro e w1 ⟨hs, A1, n1, c1, r1, l1, rfl, hown1, hb1⟩
 have S1 := HS.out.on hb1
 have R1 := rowB_own hown1
 clear HS HH hb1 hown1 c0
 have c0 := S1.2.c0
 go_wp2_with fail
 refine (HG.out _ S1.1).mono ?_
 rintro e w2 ⟨gs, A2, n2, c2, r2, l2, rfl, hown2, hb2⟩
 have S2 := Lib.hid (S1.on hb2)
 have Q1 := (R1.below hb2 (Nat.le_refl _)).mono hb2.size
 have Q2 := rowB_own hown2
 clear HG hb2 hown2 c0 S1 R1
 rcases rows_two r1 r2 with hno | t
 ·have HE := Lib.hid (joi_none (w := w) (W := w2) (join_no (m := min) r1 r2 hno) S2.out.1)
  by_cases h1 : n1 = 0
  ·subst h1
   have q1 : (((0 : Nat) : Int) == 0) = true := rfl
   clear hno l1 l2 r1 r2 Q1 Q2 HTf HMi
   go_wp2
   exact bodyPost_ret (v := .tuple #[.slice (some ⟨w2.heap.size, 0, none⟩) 0 0, .bool false]) (by simp [results, Tryz.results19, go_sem]) rfl HE.out
  ·have q1 : (((n1 : Nat) : Int) == 0) = false := by simp; omega
   have h2 : n2 = 0 := by
    rcases hno with e | e
    ·subst e; simp at l1; omega
    ·subst e; simp at l2; omega
   subst h2
   have q2 : (((0 : Nat) : Int) == 0) = true := rfl
   clear hno l1 l2 r1 r2 Q1 Q2 HTf HMi
   go_wp2
   exact bodyPost_ret (v := .tuple #[.slice (some ⟨w2.heap.size, 0, none⟩) 0 0, .bool false]) (by simp [results, Tryz.results19, go_sem]) rfl HE.out
 ·have h1 : n1 = 81 := by have := t.lh; omega
  have h2 : n2 = 81 := by have := t.lg; omega
  subst h1; subst h2
  have q1 : (((81 : Nat) : Int) == 0) = false := rfl
  have HE := Lib.hid (fun N ok h => join_of (m := min) (N := N) (ok := ok) r1 r2 t h)
  have HX := Lib.hid (fun W (hb : Below w2.heap.size w2 W) k (hk : k < 81) => row_at2 ((Q1.below hb (Nat.le_refl _)).mono hb.size) (k := k) (by rw [t.lh]; exact hk))
  have HY := Lib.hid (fun W (hb : Below w2.heap.size w2 W) k (hk : k < 81) => row_at2 ((Q2.below hb (Nat.le_refl _)).mono hb.size) (k := k) (by rw [t.lg]; exact hk))
  have HZ := Lib.hid (fun k (hk : k < 81) => show (List.zipWith min hs gs).take (k + 1) = (List.zipWith min hs gs).take k ++ [min (ht hs k) (ht gs k)] from by rw [ht_at (show k < hs.length by rw [t.lh]; exact hk), ht_at (show k < gs.length by rw [t.lg]; exact hk)]; exact zw_take min t.lh t.lg hk)
  have HZa := Lib.hid (zw_all min t.lh t.lg)
  have HTz := Lib.hid (fun W (hb : Below w.heap.size w W) A5 c5 (r : RowB W W.heap.size A5 (List.zipWith min hs gs)) => HTf.out W hb A5 c5 _ (zw_len min t.lh t.lg) r)
  generalize List.zipWith min hs gs = Z at HE HZ HZa HTz
  clear r1 r2 t l1 l2 Q1 Q2 HTf
  have HO := Lib.hid (HMi.out w2)
  have HB := Lib.hid (below_alloc1 w2 (.cells #[] 3))
  clear HMi
  go_upto_region 7 with fail
  go_loopw [12, 13] (fun u i wr => ∃ k : Nat, k ≤ 81 ∧ i = .int .i64 k ∧ Hid (Below w2.heap.size w2 wr) ∧ Hid (wr.ownsRow w2.heap.size 3 1 u k (ints (Z.take k)))) (fun _ i _ => 81 - (intOf i).toNat)
  case atStart => exact ⟨0, Nat.zero_le _, rfl, HB, by rw [List.take_zero]; exact HO⟩
  case round =>
   clear HB HO
   obtain ⟨k, hk, rfl, HB, HO⟩ := hrel
   by_cases hlt : k < 81
   ·have hltI : (k : Int) < ((81 : Nat) : Int) := by omega
    have hZ := HZ.out k hlt
    obtain ⟨b1, o1, rfl, hb1, -⟩ := HX.out _ HB.out k hlt
    obtain ⟨b2, o2, rfl, hb2, -⟩ := HY.out _ HB.out k hlt
    have HC1 := Lib.hid (fun W (hb : Below w2.heap.size w2 W) => show W.cell? ⟨b1, o1 + k, none⟩ = some (.int .i64 (ht hs k)) from by
     obtain ⟨b, o, e, _, c⟩ := HX.out W hb k hlt
     injection e with e; injection e with e1 e2
     subst e1; subst e2; exact c)
    have HC2 := Lib.hid (fun W (hb : Below w2.heap.size w2 W) => show W.cell? ⟨b2, o2 + k, none⟩ = some (.int .i64 (ht gs k)) from by
     obtain ⟨b, o, e, _, c⟩ := HY.out W hb k hlt
     injection e with e; injection e with e1 e2
     subst e1; subst e2; exact c)
    generalize ht hs k = x at hZ HC1
    generalize ht gs k = y at hZ HC2
    obtain ⟨z, hz⟩ : ∃ z, min x y = z := ⟨_, rfl⟩
    rw [hz] at hZ
    have HZk := Lib.hid hZ
    have e6 : (if y < x then y else x) = z := by rw [← hz]; split <;> omega
    clear hZ hb1 hb2 hz
    go_upto_region 11 with fail
    refine wp_region_noPanic ?_
    refine wp_region_held_drew (S := (fun w' => w'.cell? ⟨b1, o1 + k, none⟩ = some (.int .i64 x) ∧ w'.cell? ⟨b2, o2 + k, none⟩ = some (.int .i64 y))) (by kernel_rfl) (⟨HC1.out _ HB.out.drew, HC2.out _ HB.out.drew⟩) (fun hHeld => ?_)
    have HB1 := Lib.hid HB.out.drew
    have HO1 := Lib.hid (show wr.drew.ownsRow w2.heap.size 3 1 u12 k (ints (Z.take k)) from HO.out)
    clear HB HO
    generalize wr.drew = W1 at HB1 HO1 hHeld ⊢
    refine wpAnyH_take (i := 0) (v := ?_) rfl (by kernel_rfl) (by kernel_rfl) (by kernel_rfl) (fun _ _ _ h => h) (Or.inl ⟨by rfl, ?_⟩) (by assumption) ?_
    rotate_left
    ·(intro w' hS; (try dsimp only at hS); go_simp; try with_reducible rfl)
    try simp only [Act.put, List.getElem_toArray, List.getElem_cons_succ, List.getElem_cons_zero, List.setIfInBounds_toArray, List.set_cons_zero, List.set_cons_succ]
    refine wpAnyH_take (i := 1) (v := ?_) rfl (by kernel_rfl) (by kernel_rfl) (by kernel_rfl) (fun _ _ _ h => h) (Or.inl ⟨by rfl, ?_⟩) (by assumption) ?_
    rotate_left
    ·(intro w' hS; (try dsimp only at hS); go_simp; try with_reducible rfl)
    try simp only [Act.put, List.getElem_toArray, List.getElem_cons_succ, List.getElem_cons_zero, List.setIfInBounds_toArray, List.set_cons_zero, List.set_cons_succ]
    refine wpAnyH_take (i := 2) (v := ?_) rfl (by kernel_rfl) (by kernel_rfl) (by kernel_rfl) (fun _ _ _ h => h) (Or.inl ⟨by rfl, ?_⟩) (by assumption) ?_
    rotate_left
    ·(intro w' hS; (try dsimp only at hS); go_simp; try with_reducible rfl)
    try simp only [Act.put, List.getElem_toArray, List.getElem_cons_succ, List.getElem_cons_zero, List.setIfInBounds_toArray, List.set_cons_zero, List.set_cons_succ]
    refine wpAnyH_take (i := 3) (v := ?_) rfl (by kernel_rfl) (by kernel_rfl) (by kernel_rfl) (fun _ _ _ h => h) (Or.inl ⟨by rfl, ?_⟩) (by assumption) ?_
    rotate_left
    ·(intro w' hS; (try dsimp only at hS); go_simp; try with_reducible rfl)
    try simp only [Act.put, List.getElem_toArray, List.getElem_cons_succ, List.getElem_cons_zero, List.setIfInBounds_toArray, List.set_cons_zero, List.set_cons_succ]
    refine wpAnyH_take (i := 4) (v := ?_) rfl (by kernel_rfl) (by kernel_rfl) (by kernel_rfl) (fun _ _ _ h => h) (Or.inl ⟨by rfl, ?_⟩) (by assumption) ?_
    rotate_left
    ·(intro w' hS; (try dsimp only at hS); go_simp; try with_reducible rfl)
    try simp only [Act.put, List.getElem_toArray, List.getElem_cons_succ, List.getElem_cons_zero, List.setIfInBounds_toArray, List.set_cons_zero, List.set_cons_succ]
    refine wpAnyH_take (i := 5) (v := ?_) rfl (by kernel_rfl) (by kernel_rfl) (by kernel_rfl) (fun _ _ _ h => h) (Or.inl ⟨by rfl, ?_⟩) (by assumption) ?_
    rotate_left
    ·(intro w' hS; (try dsimp only at hS); go_simp; try with_reducible rfl)
    try simp only [Act.put, List.getElem_toArray, List.getElem_cons_succ, List.getElem_cons_zero, List.setIfInBounds_toArray, List.set_cons_zero, List.set_cons_succ]
    refine wpAnyH_take (i := 6) (v := ?_) rfl (by kernel_rfl) (by kernel_rfl) (by kernel_rfl) (fun _ _ _ h => h) (Or.inl ⟨by rfl, ?_⟩) (by assumption) ?_
    rotate_left
    ·(intro w' hS; (try dsimp only at hS); go_simp; try with_reducible rfl)
    try simp only [Act.put, List.getElem_toArray, List.getElem_cons_succ, List.getElem_cons_zero, List.setIfInBounds_toArray, List.set_cons_zero, List.set_cons_succ]
    refine wpAnyH_take (i := 7) (v := ?_) rfl (by kernel_rfl) (by kernel_rfl) (by kernel_rfl) (fun _ _ _ h => h) (Or.inl ⟨by rfl, ?_⟩) (by assumption) ?_
    rotate_left
    ·(intro w' hS; (try dsimp only at hS); go_simp; try with_reducible rfl)
    try simp only [Act.put, List.getElem_toArray, List.getElem_cons_succ, List.getElem_cons_zero, List.setIfInBounds_toArray, List.set_cons_zero, List.set_cons_succ]
    refine wpAnyH_take (i := 8) (v := ?_) rfl (by kernel_rfl) (by kernel_rfl) (by kernel_rfl) (fun _ _ _ h => h) (Or.inl ⟨by rfl, ?_⟩) (by assumption) ?_
    rotate_left
    ·(intro w' hS; (try dsimp only at hS); go_simp; try with_reducible rfl)
    try simp only [Act.put, List.getElem_toArray, List.getElem_cons_succ, List.getElem_cons_zero, List.setIfInBounds_toArray, List.set_cons_zero, List.set_cons_succ]
    refine wpAnyH_take (i := 9) (v := ?_) rfl (by kernel_rfl) (by kernel_rfl) (by kernel_rfl) (fun _ _ _ h => h) (Or.inl ⟨by rfl, ?_⟩) (by assumption) ?_
    rotate_left
    ·(intro w' hS; (try dsimp only at hS); go_simp; try with_reducible rfl)
    try simp only [Act.put, List.getElem_toArray, List.getElem_cons_succ, List.getElem_cons_zero, List.setIfInBounds_toArray, List.set_cons_zero, List.set_cons_succ]
    refine wpAnyH_ready (rs := [10]) (by kernel_rfl) (by simp) ?_
    refine AllReadyH.cons rfl (fun K hK => ?_) AllReadyH.nil
    go_simp
    have HB2 := Lib.hid (HB1.out.trans ((below_alloc1 W1 (.cells #[.int .i64 z] 3)).mono HB1.out.size))
    have HO2 := Lib.hid (HO1.out.alloc (.cells #[.int .i64 z] 3))
    refine hK.out _ _ (⟨HC1.out _ HB2.out, HC2.out _ HB2.out⟩) (fun hHeld => ?_)
    clear hK K
    try simp only [Act.put, List.getElem_toArray, List.getElem_cons_succ, List.getElem_cons_zero, List.setIfInBounds_toArray, List.set_cons_zero, List.set_cons_succ]
    refine wpAnyH_ready (rs := [11]) (by kernel_rfl) (by simp) ?_
    refine AllReadyH.cons rfl (fun K hK => ?_) AllReadyH.nil
    refine step_append_lies _ (by rfl) _ _ 22 (by rfl) w2.heap.size 3 i0 (.int .i64 0) 1 8 Tryz.underlying22 hi hz0 hz1 hz2 rfl (by decide) u12 k (ints (Z.take k)) (by rfl) HO2.out ⟨W1.heap.size, 0, none⟩ 1 1 [.int .i64 z] (by rfl) rfl (World.news_of_block (cs := #[.int .i64 z]) (t := 3) (fr := (0, 0)) (heap_alloc_new W1 _)) (by simp [Value.oneCell']) (by omega) (by unfold maxLen; omega) (by omega) (by have := HB1.out.size; simp; omega) _ rfl ?_
    intro g c w7 hown7 hg7 hwh7 hlt7
    have HO7 := Lib.hid (show w7.ownsRow w2.heap.size 3 1 (.slice (some ⟨g, 0, none⟩) (k + 1) c) (k + 1) (ints (Z.take (k + 1))) by rw [HZk.out, ints_snoc2]; exact hown7)
    have HB7 := Lib.hid (HB2.out.grown hg7 HB2.out.size (fun q hq => (HO2.out.lt q hq).1))
    clear hown7 hg7 hwh7 hlt7
    refine hK.out _ _ (⟨HC1.out _ HB7.out, HC2.out _ HB7.out⟩) (fun hHeld => ?_)
    clear hK K
    try simp only [Act.put, List.getElem_toArray, List.getElem_cons_succ, List.getElem_cons_zero, List.setIfInBounds_toArray, List.set_cons_zero, List.set_cons_succ]
    refine wpAnyH_take (i := 12) (v := ?_) rfl (by kernel_rfl) (by kernel_rfl) (by kernel_rfl) (fun _ _ _ h => h) (Or.inl ⟨by rfl, ?_⟩) (by assumption) ?_
    rotate_left
    ·(intro w' hS; (try dsimp only at hS); go_simp; try with_reducible rfl)
    try simp only [Act.put, List.getElem_toArray, List.getElem_cons_succ, List.getElem_cons_zero, List.setIfInBounds_toArray, List.set_cons_zero, List.set_cons_succ]
    refine wpAnyH_done (by kernel_rfl) ?_ _
    refine NoPanic.normal ?_
    clear hHeld
    go_wp2
    go_roundw
    case rel => exact ⟨k + 1, by omega, by go_num, HB7, HO7⟩
    case measure => (simp [intOf] <;> omega)
   ·obtain rfl : k = 81 := by omega
    obtain ⟨A6, cap6, rfl⟩ := own_shape HO.out
    have HR := Lib.hid (rowB_own (show wr.ownsRow w2.heap.size 3 1 (.slice A6 81 cap6) 81 (ints Z) from HZa.out ▸ HO.out))
    have S3 := S2.out.on HB.out
    have c0 := S3.2.c0
    have HTw := Lib.hid (HTz.out wr S3.1 A6 cap6 HR.out)
    have HB3 := Lib.hid S3.1
    clear HZ HX HY HTz HO HB HR S3
    go_wp2_with fail
    refine HTw.out.mono ?_
    rintro e wy ⟨N, ok, A7, n7, c7, ht, hl7, rfl, hown, hle, hb3⟩
    subst hl7
    have HP := Lib.hid (show JoiP min xs L M w (.returned (.tuple #[.slice A7 N.length c7, .bool ok])) wy from ⟨N, ok, A7, c7, rfl, own_base hown HB3.out.size, HE.out N ok ht, hle, HB3.out.trans (hb3.mono HB3.out.size)⟩)
    clear HTw HE ht hown hle hb3 HB3 c0
    generalize N.length = n7 at HP ⊢
    go_wp2
    exact bodyPost_ret (v := .tuple #[.slice A7 n7 c7, .bool ok]) (by simp [results, Tryz.results19, go_sem]) rfl HP.out
set_option maxHeartbeats 1000000 in
theorem sLowerOf (w : World) (A : Option Addr) (n cap B : Nat) (xs : List Int) (hx : xs.length = n) (hn : (n : Int) ≤ 9223372036854775807) (h : RowB w B A xs) (hB : B ≤ w.heap.size)
  (A' : Option Addr) (n' cap' B' : Nat) (L : List Dm) (hL : L.length = n') (hn' : (n' : Int) ≤ 9223372036854775807) (h' : RowM w B' A' L) (hB' : B' ≤ w.heap.size)
  (A'' : Option Addr) (n'' cap'' B'' : Nat) (M : List Dm) (hM : M.length = n'') (hn'' : (n'' : Int) ≤ 9223372036854775807) (h'' : RowM w B'' A'' M) (hB'' : B'' ≤ w.heap.size) :
  Calls Tryz.prog 7 #[.agg #[.slice A n cap], .slice A' n' cap', .slice A'' n'' cap''] w (JoiP min xs L M w) := by
 have HS := Lib.hid (r1_start w (.slice A n cap))
 have HBe := Lib.hid (fun W (hb : Below w.heap.size w W) => sJoinLowerOf W A n cap B xs hx hn (h.below hb hB) (by have := hb.size; omega) A' n' cap' B' L hL hn' (h'.below hb hB') (by have := hb.size; omega) A'' n'' cap'' B'' M hM hn'' (h''.below hb hB'') (by have := hb.size; omega))
 clear hx hn h hB hL hn' h' hB' hM hn'' h'' hB''
 go_enter Tryz.func7, Tryz.ntmps7
 go_wp2_with fail
 have c0 := HS.out.2.c0
 refine (HBe.out _ HS.out.1).mono ?_
 rintro e w1 ⟨N, ok, A6, c6, rfl, hown, hj, hle, hb1⟩
 have HP := Lib.hid (show JoiP min xs L M w (.returned (.tuple #[.slice A6 N.length c6, .bool ok])) w1 from ⟨N, ok, A6, c6, rfl, own_base hown HS.out.1.size, hj, hle, HS.out.1.trans (hb1.mono HS.out.1.size)⟩)
 clear HS HBe hown hj hle hb1 c0
 generalize N.length = n6 at HP ⊢
 go_wp2
 exact bodyPost_ret (v := .tuple #[.slice A6 n6 c6, .bool ok]) (by simp [results, Tryz.results7, go_sem]) rfl HP.out

set_option maxHeartbeats 4000000 in
theorem sJoinHigherOf (w : World) (A : Option Addr) (n cap B : Nat) (xs : List Int) (hx : xs.length = n) (hn : (n : Int) ≤ 9223372036854775807) (h : RowB w B A xs) (hB : B ≤ w.heap.size)
  (A' : Option Addr) (n' cap' B' : Nat) (L : List Dm) (hL : L.length = n') (hn' : (n' : Int) ≤ 9223372036854775807) (h' : RowM w B' A' L) (hB' : B' ≤ w.heap.size)
  (A'' : Option Addr) (n'' cap'' B'' : Nat) (M : List Dm) (hM : M.length = n'') (hn'' : (n'' : Int) ≤ 9223372036854775807) (h'' : RowM w B'' A'' M) (hB'' : B'' ≤ w.heap.size) :
  Calls Tryz.prog 19 #[.agg #[.slice A n cap], .slice A' n' cap', .slice A'' n'' cap'', .bool true] w (JoiP max xs L M w) := by
 obtain ⟨i0, hi, hz0, hz1, hz2⟩ := info_parts intInfo
 have HS := Lib.hid (r1_start w (.slice A n cap))
 have HH := Lib.hid (fun W (hb : Below w.heap.size w W) => sHeights W A n cap B xs hx hn (h.below hb hB) (by have := hb.size; omega) A' n' cap' B' L hL hn' (h'.below hb hB') (by have := hb.size; omega))
 have HG := Lib.hid (fun W (hb : Below w.heap.size w W) => sHeights W A n cap B xs hx hn (h.below hb hB) (by have := hb.size; omega) A'' n'' cap'' B'' M hM hn'' (h''.below hb hB'') (by have := hb.size; omega))
 have HTf := Lib.hid (fun W (hb : Below w.heap.size w W) A5 c5 (hs : List Int) (hl : hs.length = 81) (r : RowB W W.heap.size A5 hs) => sTilingFrom W A n cap B xs hx hn (h.below hb hB) (by have := hb.size; omega) A5 81 c5 W.heap.size hs hl (by omega) r (Nat.le_refl _))
 clear hx hn h hB hL hn' h' hB' hM hn'' h'' hB''
 have HMi := Lib.hid (fun (W : World) => World.ownsRow_made (e := 3) (size := 1) W #[] 0 (Nat.le_refl _) (by unfold maxLen; omega) rfl)
 go_enter Tryz.func19, Tryz.ntmps19
 go_wp2_with fail
 have c0 := HS.out.2.c0
 refine (HH.out _ HS.out.1).mono ?_
 rintro e w1 ⟨hs, A1, n1, c1, r1, l1, rfl, hown1, hb1⟩
 have S1 := HS.out.on hb1
 have R1 := rowB_own hown1
 clear HS HH hb1 hown1 c0
 have c0 := S1.2.c0
 go_wp2_with fail
 refine (HG.out _ S1.1).mono ?_
 rintro e w2 ⟨gs, A2, n2, c2, r2, l2, rfl, hown2, hb2⟩
 have S2 := Lib.hid (S1.on hb2)
 have Q1 := (R1.below hb2 (Nat.le_refl _)).mono hb2.size
 have Q2 := rowB_own hown2
 clear HG hb2 hown2 c0 S1 R1
 rcases rows_two r1 r2 with hno | t
 ·have HE := Lib.hid (joi_none (w := w) (W := w2) (join_no (m := max) r1 r2 hno) S2.out.1)
  by_cases h1 : n1 = 0
  ·subst h1
   have q1 : (((0 : Nat) : Int) == 0) = true := rfl
   clear hno l1 l2 r1 r2 Q1 Q2 HTf HMi
   go_wp2
   exact bodyPost_ret (v := .tuple #[.slice (some ⟨w2.heap.size, 0, none⟩) 0 0, .bool false]) (by simp [results, Tryz.results19, go_sem]) rfl HE.out
  ·have q1 : (((n1 : Nat) : Int) == 0) = false := by simp; omega
   have h2 : n2 = 0 := by
    rcases hno with e | e
    ·subst e; simp at l1; omega
    ·subst e; simp at l2; omega
   subst h2
   have q2 : (((0 : Nat) : Int) == 0) = true := rfl
   clear hno l1 l2 r1 r2 Q1 Q2 HTf HMi
   go_wp2
   exact bodyPost_ret (v := .tuple #[.slice (some ⟨w2.heap.size, 0, none⟩) 0 0, .bool false]) (by simp [results, Tryz.results19, go_sem]) rfl HE.out
 ·have h1 : n1 = 81 := by have := t.lh; omega
  have h2 : n2 = 81 := by have := t.lg; omega
  subst h1; subst h2
  have q1 : (((81 : Nat) : Int) == 0) = false := rfl
  have HE := Lib.hid (fun N ok h => join_of (m := max) (N := N) (ok := ok) r1 r2 t h)
  have HX := Lib.hid (fun W (hb : Below w2.heap.size w2 W) k (hk : k < 81) => row_at2 ((Q1.below hb (Nat.le_refl _)).mono hb.size) (k := k) (by rw [t.lh]; exact hk))
  have HY := Lib.hid (fun W (hb : Below w2.heap.size w2 W) k (hk : k < 81) => row_at2 ((Q2.below hb (Nat.le_refl _)).mono hb.size) (k := k) (by rw [t.lg]; exact hk))
  have HZ := Lib.hid (fun k (hk : k < 81) => show (List.zipWith max hs gs).take (k + 1) = (List.zipWith max hs gs).take k ++ [max (ht hs k) (ht gs k)] from by rw [ht_at (show k < hs.length by rw [t.lh]; exact hk), ht_at (show k < gs.length by rw [t.lg]; exact hk)]; exact zw_take max t.lh t.lg hk)
  have HZa := Lib.hid (zw_all max t.lh t.lg)
  have HTz := Lib.hid (fun W (hb : Below w.heap.size w W) A5 c5 (r : RowB W W.heap.size A5 (List.zipWith max hs gs)) => HTf.out W hb A5 c5 _ (zw_len max t.lh t.lg) r)
  generalize List.zipWith max hs gs = Z at HE HZ HZa HTz
  clear r1 r2 t l1 l2 Q1 Q2 HTf
  have HO := Lib.hid (HMi.out w2)
  have HB := Lib.hid (below_alloc1 w2 (.cells #[] 3))
  clear HMi
  go_upto_region 7 with fail
  go_loopw [12, 13] (fun u i wr => ∃ k : Nat, k ≤ 81 ∧ i = .int .i64 k ∧ Hid (Below w2.heap.size w2 wr) ∧ Hid (wr.ownsRow w2.heap.size 3 1 u k (ints (Z.take k)))) (fun _ i _ => 81 - (intOf i).toNat)
  case atStart => exact ⟨0, Nat.zero_le _, rfl, HB, by rw [List.take_zero]; exact HO⟩
  case round =>
   clear HB HO
   obtain ⟨k, hk, rfl, HB, HO⟩ := hrel
   by_cases hlt : k < 81
   ·have hltI : (k : Int) < ((81 : Nat) : Int) := by omega
    have hZ := HZ.out k hlt
    obtain ⟨b1, o1, rfl, hb1, -⟩ := HX.out _ HB.out k hlt
    obtain ⟨b2, o2, rfl, hb2, -⟩ := HY.out _ HB.out k hlt
    have HC1 := Lib.hid (fun W (hb : Below w2.heap.size w2 W) => show W.cell? ⟨b1, o1 + k, none⟩ = some (.int .i64 (ht hs k)) from by
     obtain ⟨b, o, e, _, c⟩ := HX.out W hb k hlt
     injection e with e; injection e with e1 e2
     subst e1; subst e2; exact c)
    have HC2 := Lib.hid (fun W (hb : Below w2.heap.size w2 W) => show W.cell? ⟨b2, o2 + k, none⟩ = some (.int .i64 (ht gs k)) from by
     obtain ⟨b, o, e, _, c⟩ := HY.out W hb k hlt
     injection e with e; injection e with e1 e2
     subst e1; subst e2; exact c)
    generalize ht hs k = x at hZ HC1
    generalize ht gs k = y at hZ HC2
    obtain ⟨z, hz⟩ : ∃ z, max x y = z := ⟨_, rfl⟩
    rw [hz] at hZ
    have HZk := Lib.hid hZ
    have e6 : (if x < y then y else x) = z := by rw [← hz]; split <;> omega
    clear hZ hb1 hb2 hz
    go_upto_region 10 with fail
    refine wp_region_noPanic ?_
    refine wp_region_held_drew (S := (fun w' => w'.cell? ⟨b1, o1 + k, none⟩ = some (.int .i64 x) ∧ w'.cell? ⟨b2, o2 + k, none⟩ = some (.int .i64 y))) (by kernel_rfl) (⟨HC1.out _ HB.out.drew, HC2.out _ HB.out.drew⟩) (fun hHeld => ?_)
    have HB1 := Lib.hid HB.out.drew
    have HO1 := Lib.hid (show wr.drew.ownsRow w2.heap.size 3 1 u12 k (ints (Z.take k)) from HO.out)
    clear HB HO
    generalize wr.drew = W1 at HB1 HO1 hHeld ⊢
    refine wpAnyH_take (i := 0) (v := ?_) rfl (by kernel_rfl) (by kernel_rfl) (by kernel_rfl) (fun _ _ _ h => h) (Or.inl ⟨by rfl, ?_⟩) (by assumption) ?_
    rotate_left
    ·(intro w' hS; (try dsimp only at hS); go_simp; try with_reducible rfl)
    try simp only [Act.put, List.getElem_toArray, List.getElem_cons_succ, List.getElem_cons_zero, List.setIfInBounds_toArray, List.set_cons_zero, List.set_cons_succ]
    refine wpAnyH_take (i := 1) (v := ?_) rfl (by kernel_rfl) (by kernel_rfl) (by kernel_rfl) (fun _ _ _ h => h) (Or.inl ⟨by rfl, ?_⟩) (by assumption) ?_
    rotate_left
    ·(intro w' hS; (try dsimp only at hS); go_simp; try with_reducible rfl)
    try simp only [Act.put, List.getElem_toArray, List.getElem_cons_succ, List.getElem_cons_zero, List.setIfInBounds_toArray, List.set_cons_zero, List.set_cons_succ]
    refine wpAnyH_take (i := 2) (v := ?_) rfl (by kernel_rfl) (by kernel_rfl) (by kernel_rfl) (fun _ _ _ h => h) (Or.inl ⟨by rfl, ?_⟩) (by assumption) ?_
    rotate_left
    ·(intro w' hS; (try dsimp only at hS); go_simp; try with_reducible rfl)
    try simp only [Act.put, List.getElem_toArray, List.getElem_cons_succ, List.getElem_cons_zero, List.setIfInBounds_toArray, List.set_cons_zero, List.set_cons_succ]
    refine wpAnyH_take (i := 3) (v := ?_) rfl (by kernel_rfl) (by kernel_rfl) (by kernel_rfl) (fun _ _ _ h => h) (Or.inl ⟨by rfl, ?_⟩) (by assumption) ?_
    rotate_left
    ·(intro w' hS; (try dsimp only at hS); go_simp; try with_reducible rfl)
    try simp only [Act.put, List.getElem_toArray, List.getElem_cons_succ, List.getElem_cons_zero, List.setIfInBounds_toArray, List.set_cons_zero, List.set_cons_succ]
    refine wpAnyH_take (i := 4) (v := ?_) rfl (by kernel_rfl) (by kernel_rfl) (by kernel_rfl) (fun _ _ _ h => h) (Or.inl ⟨by rfl, ?_⟩) (by assumption) ?_
    rotate_left
    ·(intro w' hS; (try dsimp only at hS); go_simp; try with_reducible rfl)
    try simp only [Act.put, List.getElem_toArray, List.getElem_cons_succ, List.getElem_cons_zero, List.setIfInBounds_toArray, List.set_cons_zero, List.set_cons_succ]
    refine wpAnyH_take (i := 5) (v := ?_) rfl (by kernel_rfl) (by kernel_rfl) (by kernel_rfl) (fun _ _ _ h => h) (Or.inl ⟨by rfl, ?_⟩) (by assumption) ?_
    rotate_left
    ·(intro w' hS; (try dsimp only at hS); go_simp; try with_reducible rfl)
    try simp only [Act.put, List.getElem_toArray, List.getElem_cons_succ, List.getElem_cons_zero, List.setIfInBounds_toArray, List.set_cons_zero, List.set_cons_succ]
    refine wpAnyH_take (i := 6) (v := ?_) rfl (by kernel_rfl) (by kernel_rfl) (by kernel_rfl) (fun _ _ _ h => h) (Or.inl ⟨by rfl, ?_⟩) (by assumption) ?_
    rotate_left
    ·(intro w' hS; (try dsimp only at hS); go_simp; try with_reducible rfl)
    try simp only [Act.put, List.getElem_toArray, List.getElem_cons_succ, List.getElem_cons_zero, List.setIfInBounds_toArray, List.set_cons_zero, List.set_cons_succ]
    refine wpAnyH_take (i := 7) (v := ?_) rfl (by kernel_rfl) (by kernel_rfl) (by kernel_rfl) (fun _ _ _ h => h) (Or.inl ⟨by rfl, ?_⟩) (by assumption) ?_
    rotate_left
    ·(intro w' hS; (try dsimp only at hS); go_simp; try with_reducible rfl)
    try simp only [Act.put, List.getElem_toArray, List.getElem_cons_succ, List.getElem_cons_zero, List.setIfInBounds_toArray, List.set_cons_zero, List.set_cons_succ]
    refine wpAnyH_take (i := 8) (v := ?_) rfl (by kernel_rfl) (by kernel_rfl) (by kernel_rfl) (fun _ _ _ h => h) (Or.inl ⟨by rfl, ?_⟩) (by assumption) ?_
    rotate_left
    ·(intro w' hS; (try dsimp only at hS); go_simp; try with_reducible rfl)
    try simp only [Act.put, List.getElem_toArray, List.getElem_cons_succ, List.getElem_cons_zero, List.setIfInBounds_toArray, List.set_cons_zero, List.set_cons_succ]
    refine wpAnyH_take (i := 9) (v := ?_) rfl (by kernel_rfl) (by kernel_rfl) (by kernel_rfl) (fun _ _ _ h => h) (Or.inl ⟨by rfl, ?_⟩) (by assumption) ?_
    rotate_left
    ·(intro w' hS; (try dsimp only at hS); go_simp; try with_reducible rfl)
    try simp only [Act.put, List.getElem_toArray, List.getElem_cons_succ, List.getElem_cons_zero, List.setIfInBounds_toArray, List.set_cons_zero, List.set_cons_succ]
    refine wpAnyH_ready (rs := [10]) (by kernel_rfl) (by simp) ?_
    refine AllReadyH.cons rfl (fun K hK => ?_) AllReadyH.nil
    go_simp
    have HB2 := Lib.hid (HB1.out.trans ((below_alloc1 W1 (.cells #[.int .i64 z] 3)).mono HB1.out.size))
    have HO2 := Lib.hid (HO1.out.alloc (.cells #[.int .i64 z] 3))
    refine hK.out _ _ (⟨HC1.out _ HB2.out, HC2.out _ HB2.out⟩) (fun hHeld => ?_)
    clear hK K
    try simp only [Act.put, List.getElem_toArray, List.getElem_cons_succ, List.getElem_cons_zero, List.setIfInBounds_toArray, List.set_cons_zero, List.set_cons_succ]
    refine wpAnyH_ready (rs := [11]) (by kernel_rfl) (by simp) ?_
    refine AllReadyH.cons rfl (fun K hK => ?_) AllReadyH.nil
    refine step_append_lies _ (by rfl) _ _ 22 (by rfl) w2.heap.size 3 i0 (.int .i64 0) 1 8 Tryz.underlying22 hi hz0 hz1 hz2 rfl (by decide) u12 k (ints (Z.take k)) (by rfl) HO2.out ⟨W1.heap.size, 0, none⟩ 1 1 [.int .i64 z] (by rfl) rfl (World.news_of_block (cs := #[.int .i64 z]) (t := 3) (fr := (0, 0)) (heap_alloc_new W1 _)) (by simp [Value.oneCell']) (by omega) (by unfold maxLen; omega) (by omega) (by have := HB1.out.size; simp; omega) _ rfl ?_
    intro g c w7 hown7 hg7 hwh7 hlt7
    have HO7 := Lib.hid (show w7.ownsRow w2.heap.size 3 1 (.slice (some ⟨g, 0, none⟩) (k + 1) c) (k + 1) (ints (Z.take (k + 1))) by rw [HZk.out, ints_snoc2]; exact hown7)
    have HB7 := Lib.hid (HB2.out.grown hg7 HB2.out.size (fun q hq => (HO2.out.lt q hq).1))
    clear hown7 hg7 hwh7 hlt7
    refine hK.out _ _ (⟨HC1.out _ HB7.out, HC2.out _ HB7.out⟩) (fun hHeld => ?_)
    clear hK K
    try simp only [Act.put, List.getElem_toArray, List.getElem_cons_succ, List.getElem_cons_zero, List.setIfInBounds_toArray, List.set_cons_zero, List.set_cons_succ]
    refine wpAnyH_take (i := 12) (v := ?_) rfl (by kernel_rfl) (by kernel_rfl) (by kernel_rfl) (fun _ _ _ h => h) (Or.inl ⟨by rfl, ?_⟩) (by assumption) ?_
    rotate_left
    ·(intro w' hS; (try dsimp only at hS); go_simp; try with_reducible rfl)
    try simp only [Act.put, List.getElem_toArray, List.getElem_cons_succ, List.getElem_cons_zero, List.setIfInBounds_toArray, List.set_cons_zero, List.set_cons_succ]
    refine wpAnyH_done (by kernel_rfl) ?_ _
    refine NoPanic.normal ?_
    clear hHeld
    go_wp2
    go_roundw
    case rel => exact ⟨k + 1, by omega, by go_num, HB7, HO7⟩
    case measure => (simp [intOf] <;> omega)
   ·obtain rfl : k = 81 := by omega
    obtain ⟨A6, cap6, rfl⟩ := own_shape HO.out
    have HR := Lib.hid (rowB_own (show wr.ownsRow w2.heap.size 3 1 (.slice A6 81 cap6) 81 (ints Z) from HZa.out ▸ HO.out))
    have S3 := S2.out.on HB.out
    have c0 := S3.2.c0
    have HTw := Lib.hid (HTz.out wr S3.1 A6 cap6 HR.out)
    have HB3 := Lib.hid S3.1
    clear HZ HX HY HTz HO HB HR S3
    go_wp2_with fail
    refine HTw.out.mono ?_
    rintro e wy ⟨N, ok, A7, n7, c7, ht, hl7, rfl, hown, hle, hb3⟩
    subst hl7
    have HP := Lib.hid (show JoiP max xs L M w (.returned (.tuple #[.slice A7 N.length c7, .bool ok])) wy from ⟨N, ok, A7, c7, rfl, own_base hown HB3.out.size, HE.out N ok ht, hle, HB3.out.trans (hb3.mono HB3.out.size)⟩)
    clear HTw HE ht hown hle hb3 HB3 c0
    generalize N.length = n7 at HP ⊢
    go_wp2
    exact bodyPost_ret (v := .tuple #[.slice A7 n7 c7, .bool ok]) (by simp [results, Tryz.results19, go_sem]) rfl HP.out
set_option maxHeartbeats 1000000 in
theorem sHigherOf (w : World) (A : Option Addr) (n cap B : Nat) (xs : List Int) (hx : xs.length = n) (hn : (n : Int) ≤ 9223372036854775807) (h : RowB w B A xs) (hB : B ≤ w.heap.size)
  (A' : Option Addr) (n' cap' B' : Nat) (L : List Dm) (hL : L.length = n') (hn' : (n' : Int) ≤ 9223372036854775807) (h' : RowM w B' A' L) (hB' : B' ≤ w.heap.size)
  (A'' : Option Addr) (n'' cap'' B'' : Nat) (M : List Dm) (hM : M.length = n'') (hn'' : (n'' : Int) ≤ 9223372036854775807) (h'' : RowM w B'' A'' M) (hB'' : B'' ≤ w.heap.size) :
  Calls Tryz.prog 16 #[.agg #[.slice A n cap], .slice A' n' cap', .slice A'' n'' cap''] w (JoiP max xs L M w) := by
 have HS := Lib.hid (r1_start w (.slice A n cap))
 have HBe := Lib.hid (fun W (hb : Below w.heap.size w W) => sJoinHigherOf W A n cap B xs hx hn (h.below hb hB) (by have := hb.size; omega) A' n' cap' B' L hL hn' (h'.below hb hB') (by have := hb.size; omega) A'' n'' cap'' B'' M hM hn'' (h''.below hb hB'') (by have := hb.size; omega))
 clear hx hn h hB hL hn' h' hB' hM hn'' h'' hB''
 go_enter Tryz.func16, Tryz.ntmps16
 go_wp2_with fail
 have c0 := HS.out.2.c0
 refine (HBe.out _ HS.out.1).mono ?_
 rintro e w1 ⟨N, ok, A6, c6, rfl, hown, hj, hle, hb1⟩
 have HP := Lib.hid (show JoiP max xs L M w (.returned (.tuple #[.slice A6 N.length c6, .bool ok])) w1 from ⟨N, ok, A6, c6, rfl, own_base hown HS.out.1.size, hj, hle, HS.out.1.trans (hb1.mono HS.out.1.size)⟩)
 clear HS HBe hown hj hle hb1 c0
 generalize N.length = n6 at HP ⊢
 go_wp2
 exact bodyPost_ret (v := .tuple #[.slice A6 n6 c6, .bool ok]) (by simp [results, Tryz.results16, go_sem]) rfl HP.out
end Go.Proofs.YtmajllgfmclcoaaGreat.Jn
