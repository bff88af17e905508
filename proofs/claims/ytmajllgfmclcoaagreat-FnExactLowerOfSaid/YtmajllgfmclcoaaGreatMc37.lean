/- JoT in one text. -/
import Derived.Test.YtmajllgfmclcoaaGreatMc36
import Derived.Test.YtmajllgfmclcoaaGreatMc30

namespace Go.Proofs.YtmajllgfmclcoaaGreat.Jn
set_option linter.unusedVariables false
set_option linter.unusedSimpArgs false
set_option maxRecDepth 100000
open Go.RowKit Go.Proofs.YtmajllgfmclcoaaGreat.Dms Go.Proofs.YtmajllgfmclcoaaGreat.Til Go.Proofs.YtmajllgfmclcoaaGreat.Hgt Go.Joins
open Go.Proofs.YtmajllgfmclcoaaGreat.Reg (ints RowB rowB_own own_below own_base)
open Go.Proofs.YtmajllgfmclcoaaGreat.Cor (TfP iTilingFrom)

theorem joi_no {m : Int → Int → Int} {xs : List Int} {L M : List Dm} {w W : World} (h : joinR m xs L M [] false) (hb : Below w.heap.size w W) : JoiP m xs L M w (.returned (.tuple #[.slice none 0 0, .bool false])) W :=
 ⟨[], false, none, 0, rfl, ⟨rfl, .inl ⟨rfl, rfl⟩⟩, h, Nat.le_refl _, hb⟩

set_option maxHeartbeats 4000000 in
theorem iBetweenLesser (w : World) (A : Option Addr) (n cap B : Nat) (xs : List Int) (hx : xs.length = n) (hn : (n : Int) ≤ 9223372036854775807) (h : RowB w B A xs) (hB : B ≤ w.heap.size)
  (A' : Option Addr) (n' cap' B' : Nat) (L : List Dm) (hL : L.length = n') (hn' : (n' : Int) ≤ 9223372036854775807) (hf : Fits L) (h' : RowM w B' A' L) (hB' : B' ≤ w.heap.size) (hcap : n' ≤ cap')
  (A'' : Option Addr) (n'' cap'' B'' : Nat) (M : List Dm) (hM : M.length = n'') (hn'' : (n'' : Int) ≤ 9223372036854775807) (hf' : Fits M) (h'' : RowM w B'' A'' M) (hB'' : B'' ≤ w.heap.size) (hcap' : n'' ≤ cap'')
  (iSort : ∀ (W : World) (A1 : Option Addr) (n c : Nat) (L : List Dm), L.length = n → (n : Int) ≤ 1048576 → Fits L → RowM W W.heap.size A1 L → Calls Tryz.prog 71 #[.slice A1 n c] W (DmPost (sortM L) (sortM L).length W)) :
  Calls Tryz.prog 22 #[.agg #[.slice A n cap], .slice A' n' cap', .slice A'' n'' cap'', .func (.func 23) #[] #[]] w (JoiP min xs L M w) := by
 have HS := Lib.hid (r1_start w (.slice A n cap))
 have HBo := Lib.hid (fun W (hb : Below w.heap.size w W) => iBoth W A n cap B xs hx hn (h.below hb hB) (by have := hb.size; omega) A' n' cap' B' L hL hn' hf (h'.below hb hB') (by have := hb.size; omega) hcap A'' n'' cap'' B'' M hM hn'' hf' (h''.below hb hB'') (by have := hb.size; omega) hcap')
 have HTf := Lib.hid (fun W (hb : Below w.heap.size w W) A5 c5 (hs : List Int) (hl : hs.length = 81) (r : RowB W W.heap.size A5 hs) => iTilingFrom W A n cap B xs hx hn (h.below hb hB) (by have := hb.size; omega) A5 81 c5 W.heap.size hs hl (by omega) r (Nat.le_refl _) iSort)
 clear hx hn h hB hL hn' h' hB' hf hcap hM hn'' h'' hB'' hf' hcap' iSort
 go_enter Tryz.func22, Tryz.ntmps22
 go_wp2_with fail
 have c0 := HS.out.2.c0
 refine (HBo.out _ HS.out.1).mono ?_
 rintro e w1 ⟨hs, gs, r1, r2, hb1, ⟨hno, rfl⟩ | ⟨t, A1, c1, A2, c2, rfl, Q1, Q2⟩⟩
 ·have S1 := HS.out.on hb1
  have HE := Lib.hid (joi_no (w := w) (W := w1) (join_no (m := min) r1 r2 hno) S1.1)
  clear HS HBo HTf hb1 r1 r2 hno c0 S1
  go_wp2
  exact bodyPost_ret (v := .tuple #[.slice none 0 0, .bool false]) (by simp [results, Tryz.results22, go_sem]) rfl HE.out
 ·have S1 := Lib.hid (HS.out.on hb1)
  have HE := Lib.hid (fun N ok h => join_of (m := min) (N := N) (ok := ok) r1 r2 t h)
  have HCh := Lib.hid (fun W (hb : Below w1.heap.size w1 W) => iChosenLesser W A1 81 c1 W.heap.size hs t.lh ((Q1.below hb (Nat.le_refl _)).mono hb.size) (Nat.le_refl _) A2 c2 W.heap.size gs t.lg ((Q2.below hb (Nat.le_refl _)).mono hb.size) (Nat.le_refl _) rfl)
  have HTz := Lib.hid (fun W (hb : Below w.heap.size w W) A5 c5 (r : RowB W W.heap.size A5 (List.zipWith min hs gs)) => HTf.out W hb A5 c5 _ (zw_len min t.lh t.lg) r)
  generalize List.zipWith min hs gs = Z at HE HCh HTz
  clear HS HBo HTf hb1 r1 r2 t c0 Q1 Q2
  go_upto_region 4 with fail
  refine wp_region_noPanic ?_
  refine wp_region_held_drew (S := (fun w' => w'.cell? ⟨w.heap.size, 0, none⟩ = some (.slice A n cap))) (by kernel_rfl) (show w1.drew.cell? _ = _ from S1.out.2.c0) (fun hHeld => ?_)
  have HCd := Lib.hid (HCh.out w1.drew ((Below.refl _ w1).drew))
  have S2 := Lib.hid (show R1 w (.slice A n cap) w1.drew from ⟨S1.out.1.drew, S1.out.2⟩)
  clear S1 HCh
  generalize w1.drew = W2 at HCd S2 hHeld ⊢
  refine wpAnyH_take (i := 0) (v := ?_) rfl (by kernel_rfl) (by kernel_rfl) (by kernel_rfl) (fun _ _ _ h => h) (Or.inl ⟨by rfl, ?_⟩) (by assumption) ?_
  rotate_left
  ·(intro w' hS; (try dsimp only at hS); go_simp; try with_reducible rfl)
  try simp only [Act.put, List.getElem_toArray, List.getElem_cons_succ, List.getElem_cons_zero, List.setIfInBounds_toArray, List.set_cons_zero, List.set_cons_succ]
  refine wpAnyH_take (i := 1) (v := ?_) rfl (by kernel_rfl) (by kernel_rfl) (by kernel_rfl) (fun _ _ _ h => h) (Or.inl ⟨by rfl, ?_⟩) (by assumption) ?_
  rotate_left
  ·(intro w' hS; (try dsimp only at hS); go_simp; try with_reducible rfl)
  try simp only [Act.put, List.getElem_toArray, List.getElem_cons_succ, List.getElem_cons_zero, List.setIfInBounds_toArray, List.set_cons_zero, List.set_cons_succ]
  refine wpAnyH_take (i := 2) (v := ?_) rfl (by kernel_rfl) (by kernel_rfl) (by kernel_rfl) (fun _ _ _ h => h) (Or.inl ⟨by rfl, ?_⟩) (by assumption) ?_
  rotate_left
  ·(intro w' hS; (try dsimp only at hS); go_simp; try with_reducible rfl)
  try simp only [Act.put, List.getElem_toArray, List.getElem_cons_succ, List.getElem_cons_zero, List.setIfInBounds_toArray, List.set_cons_zero, List.set_cons_succ]
  refine wpAnyH_take (i := 3) (v := ?_) rfl (by kernel_rfl) (by kernel_rfl) (by kernel_rfl) (fun _ _ _ h => h) (Or.inl ⟨by rfl, ?_⟩) (by assumption) ?_
  rotate_left
  ·(intro w' hS; (try dsimp only at hS); go_simp; try with_reducible rfl)
  try simp only [Act.put, List.getElem_toArray, List.getElem_cons_succ, List.getElem_cons_zero, List.setIfInBounds_toArray, List.set_cons_zero, List.set_cons_succ]
  refine wpAnyH_ready (rs := [4]) (by kernel_rfl) (by simp) ?_
  refine AllReadyH.cons rfl (fun K hK => ?_) AllReadyH.nil
  go_simp
  refine HCd.out.mono ?_
  rintro e wx ⟨A5, c5, rfl, hown, hb2⟩
  have S3 := Lib.hid (S2.out.on hb2)
  have HTw := Lib.hid (HTz.out wx S3.out.1 A5 c5 (rowB_own hown))
  clear S2 HCd HTz hown hb2
  go_wp2_with fail
  refine hK.out _ _ (S3.out.2.c0) (fun hHeld => ?_)
  clear hK K
  try simp only [Act.put, List.getElem_toArray, List.getElem_cons_succ, List.getElem_cons_zero, List.setIfInBounds_toArray, List.set_cons_zero, List.set_cons_succ]
  refine wpAnyH_ready (rs := [5]) (by kernel_rfl) (by simp) ?_
  refine AllReadyH.cons rfl (fun K hK => ?_) AllReadyH.nil
  go_simp
  refine HTw.out.mono ?_
  rintro e wy ⟨N, ok, A6, n6, c6, ht, hl6, rfl, hown, hle, hb3⟩
  have S4 := Lib.hid (S3.out.on hb3)
  subst hl6
  have HP := Lib.hid (show JoiP min xs L M w (.returned (.tuple #[.slice A6 N.length c6, .bool ok])) wy from ⟨N, ok, A6, c6, rfl, own_base hown S3.out.1.size, HE.out N ok ht, hle, S4.out.1⟩)
  clear S3 HTw HE ht hown hle hb3
  generalize N.length = n6 at HP ⊢
  go_wp2_with fail
  refine hK.out _ _ (S4.out.2.c0) (fun hHeld => ?_)
  clear hK K
  try simp only [Act.put, List.getElem_toArray, List.getElem_cons_succ, List.getElem_cons_zero, List.setIfInBounds_toArray, List.set_cons_zero, List.set_cons_succ]
  refine wpAnyH_take (i := 6) (v := ?_) rfl (by kernel_rfl) (by kernel_rfl) (by kernel_rfl) (fun _ _ _ h => h) (Or.inl ⟨by rfl, ?_⟩) (by assumption) ?_
  rotate_left
  ·(intro w' hS; (try dsimp only at hS); go_simp; try with_reducible rfl)
  try simp only [Act.put, List.getElem_toArray, List.getElem_cons_succ, List.getElem_cons_zero, List.setIfInBounds_toArray, List.set_cons_zero, List.set_cons_succ]
  refine wpAnyH_take (i := 7) (v := ?_) rfl (by kernel_rfl) (by kernel_rfl) (by kernel_rfl) (fun _ _ _ h => h) (Or.inl ⟨by rfl, ?_⟩) (by assumption) ?_
  rotate_left
  ·(intro w' hS; (try dsimp only at hS); go_simp; try with_reducible rfl)
  try simp only [Act.put, List.getElem_toArray, List.getElem_cons_succ, List.getElem_cons_zero, List.setIfInBounds_toArray, List.set_cons_zero, List.set_cons_succ]
  refine wpAnyH_take (i := 8) (v := ?_) rfl (by kernel_rfl) (by kernel_rfl) (by kernel_rfl) (fun _ _ _ h => h) (Or.inl ⟨by rfl, ?_⟩) (by assumption) ?_
  rotate_left
  ·(intro w' hS; (try dsimp only at hS); go_simp; try with_reducible rfl)
  try simp only [Act.put, List.getElem_toArray, List.getElem_cons_succ, List.getElem_cons_zero, List.setIfInBounds_toArray, List.set_cons_zero, List.set_cons_succ]
  refine wpAnyH_take (i := 9) (v := ?_) rfl (by kernel_rfl) (by kernel_rfl) (by kernel_rfl) (fun _ _ _ h => h) (Or.inl ⟨by rfl, ?_⟩) (by assumption) ?_
  rotate_left
  ·(intro w' hS; (try dsimp only at hS); go_simp; try with_reducible rfl)
  try simp only [Act.put, List.getElem_toArray, List.getElem_cons_succ, List.getElem_cons_zero, List.setIfInBounds_toArray, List.set_cons_zero, List.set_cons_succ]
  refine wpAnyH_done (by kernel_rfl) ?_ _
  refine NoPanic.normal ?_
  clear hHeld
  go_wp2
  exact bodyPost_ret (v := .tuple #[.slice A6 n6 c6, .bool ok]) (by simp [results, Tryz.results22, go_sem]) rfl HP.out
set_option maxHeartbeats 1000000 in
theorem iLowerOf (w : World) (A : Option Addr) (n cap B : Nat) (xs : List Int) (hx : xs.length = n) (hn : (n : Int) ≤ 9223372036854775807) (h : RowB w B A xs) (hB : B ≤ w.heap.size)
  (A' : Option Addr) (n' cap' B' : Nat) (L : List Dm) (hL : L.length = n') (hn' : (n' : Int) ≤ 9223372036854775807) (hf : Fits L) (h' : RowM w B' A' L) (hB' : B' ≤ w.heap.size) (hcap : n' ≤ cap')
  (A'' : Option Addr) (n'' cap'' B'' : Nat) (M : List Dm) (hM : M.length = n'') (hn'' : (n'' : Int) ≤ 9223372036854775807) (hf' : Fits M) (h'' : RowM w B'' A'' M) (hB'' : B'' ≤ w.heap.size) (hcap' : n'' ≤ cap'')
  (iSort : ∀ (W : World) (A1 : Option Addr) (n c : Nat) (L : List Dm), L.length = n → (n : Int) ≤ 1048576 → Fits L → RowM W W.heap.size A1 L → Calls Tryz.prog 71 #[.slice A1 n c] W (DmPost (sortM L) (sortM L).length W)) :
  Calls Tryz.prog 10 #[.agg #[.slice A n cap], .slice A' n' cap', .slice A'' n'' cap''] w (JoiP min xs L M w) := by
 have HS := Lib.hid (r1_start w (.slice A n cap))
 have HBe := Lib.hid (fun W (hb : Below w.heap.size w W) => iBetweenLesser W A n cap B xs hx hn (h.below hb hB) (by have := hb.size; omega) A' n' cap' B' L hL hn' hf (h'.below hb hB') (by have := hb.size; omega) hcap A'' n'' cap'' B'' M hM hn'' hf' (h''.below hb hB'') (by have := hb.size; omega) hcap' iSort)
 clear hx hn h hB hL hn' h' hB' hf hcap hM hn'' h'' hB'' hf' hcap' iSort
 go_enter Tryz.func10, Tryz.ntmps10
 go_wp2_with fail
 have c0 := HS.out.2.c0
 refine (HBe.out _ HS.out.1).mono ?_
 rintro e w1 ⟨N, ok, A6, c6, rfl, hown, hj, hle, hb1⟩
 have HP := Lib.hid (show JoiP min xs L M w (.returned (.tuple #[.slice A6 N.length c6, .bool ok])) w1 from ⟨N, ok, A6, c6, rfl, own_base hown HS.out.1.size, hj, hle, HS.out.1.trans (hb1.mono HS.out.1.size)⟩)
 clear HS HBe hown hj hle hb1 c0
 generalize N.length = n6 at HP ⊢
 go_wp2
 exact bodyPost_ret (v := .tuple #[.slice A6 n6 c6, .bool ok]) (by simp [results, Tryz.results10, go_sem]) rfl HP.out

set_option maxHeartbeats 4000000 in
theorem iBetweenGreater (w : World) (A : Option Addr) (n cap B : Nat) (xs : List Int) (hx : xs.length = n) (hn : (n : Int) ≤ 9223372036854775807) (h : RowB w B A xs) (hB : B ≤ w.heap.size)
  (A' : Option Addr) (n' cap' B' : Nat) (L : List Dm) (hL : L.length = n') (hn' : (n' : Int) ≤ 9223372036854775807) (hf : Fits L) (h' : RowM w B' A' L) (hB' : B' ≤ w.heap.size) (hcap : n' ≤ cap')
  (A'' : Option Addr) (n'' cap'' B'' : Nat) (M : List Dm) (hM : M.length = n'') (hn'' : (n'' : Int) ≤ 9223372036854775807) (hf' : Fits M) (h'' : RowM w B'' A'' M) (hB'' : B'' ≤ w.heap.size) (hcap' : n'' ≤ cap'')
  (iSort : ∀ (W : World) (A1 : Option Addr) (n c : Nat) (L : List Dm), L.length = n → (n : Int) ≤ 1048576 → Fits L → RowM W W.heap.size A1 L → Calls Tryz.prog 71 #[.slice A1 n c] W (DmPost (sortM L) (sortM L).length W)) :
  Calls Tryz.prog 22 #[.agg #[.slice A n cap], .slice A' n' cap', .slice A'' n'' cap'', .func (.func 27) #[] #[]] w (JoiP max xs L M w) := by
 have HS := Lib.hid (r1_start w (.slice A n cap))
 have HBo := Lib.hid (fun W (hb : Below w.heap.size w W) => iBoth W A n cap B xs hx hn (h.below hb hB) (by have := hb.size; omega) A' n' cap' B' L hL hn' hf (h'.below hb hB') (by have := hb.size; omega) hcap A'' n'' cap'' B'' M hM hn'' hf' (h''.below hb hB'') (by have := hb.size; omega) hcap')
 have HTf := Lib.hid (fun W (hb : Below w.heap.size w W) A5 c5 (hs : List Int) (hl : hs.length = 81) (r : RowB W W.heap.size A5 hs) => iTilingFrom W A n cap B xs hx hn (h.below hb hB) (by have := hb.size; omega) A5 81 c5 W.heap.size hs hl (by omega) r (Nat.le_refl _) iSort)
 clear hx hn h hB hL hn' h' hB' hf hcap hM hn'' h'' hB'' hf' hcap' iSort
 go_enter Tryz.func22, Tryz.ntmps22
 go_wp2_with fail
 have c0 := HS.out.2.c0
 refine (HBo.out _ HS.out.1).mono ?_
 rintro e w1 ⟨hs, gs, r1, r2, hb1, ⟨hno, rfl⟩ | ⟨t, A1, c1, A2, c2, rfl, Q1, Q2⟩⟩
 ·have S1 := HS.out.on hb1
  have HE := Lib.hid (joi_no (w := w) (W := w1) (join_no (m := max) r1 r2 hno) S1.1)
  clear HS HBo HTf hb1 r1 r2 hno c0 S1
  go_wp2
  exact bodyPost_ret (v := .tuple #[.slice none 0 0, .bool false]) (by simp [results, Tryz.results22, go_sem]) rfl HE.out
 ·have S1 := Lib.hid (HS.out.on hb1)
  have HE := Lib.hid (fun N ok h => join_of (m := max) (N := N) (ok := ok) r1 r2 t h)
  have HCh := Lib.hid (fun W (hb : Below w1.heap.size w1 W) => iChosenGreater W A1 81 c1 W.heap.size hs t.lh ((Q1.below hb (Nat.le_refl _)).mono hb.size) (Nat.le_refl _) A2 c2 W.heap.size gs t.lg ((Q2.below hb (Nat.le_refl _)).mono hb.size) (Nat.le_refl _) rfl)
  have HTz := Lib.hid (fun W (hb : Below w.heap.size w W) A5 c5 (r : RowB W W.heap.size A5 (List.zipWith max hs gs)) => HTf.out W hb A5 c5 _ (zw_len max t.lh t.lg) r)
  generalize List.zipWith max hs gs = Z at HE HCh HTz
  clear HS HBo HTf hb1 r1 r2 t c0 Q1 Q2
  go_upto_region 4 with fail
  refine wp_region_noPanic ?_
  refine wp_region_held_drew (S := (fun w' => w'.cell? ⟨w.heap.size, 0, none⟩ = some (.slice A n cap))) (by kernel_rfl) (show w1.drew.cell? _ = _ from S1.out.2.c0) (fun hHeld => ?_)
  have HCd := Lib.hid (HCh.out w1.drew ((Below.refl _ w1).drew))
  have S2 := Lib.hid (show R1 w (.slice A n cap) w1.drew from ⟨S1.out.1.drew, S1.out.2⟩)
  clear S1 HCh
  generalize w1.drew = W2 at HCd S2 hHeld ⊢
  refine wpAnyH_take (i := 0) (v := ?_) rfl (by kernel_rfl) (by kernel_rfl) (by kernel_rfl) (fun _ _ _ h => h) (Or.inl ⟨by rfl, ?_⟩) (by assumption) ?_
  rotate_left
  ·(intro w' hS; (try dsimp only at hS); go_simp; try with_reducible rfl)
  try simp only [Act.put, List.getElem_toArray, List.getElem_cons_succ, List.getElem_cons_zero, List.setIfInBounds_toArray, List.set_cons_zero, List.set_cons_succ]
  refine wpAnyH_take (i := 1) (v := ?_) rfl (by kernel_rfl) (by kernel_rfl) (by kernel_rfl) (fun _ _ _ h => h) (Or.inl ⟨by rfl, ?_⟩) (by assumption) ?_
  rotate_left
  ·(intro w' hS; (try dsimp only at hS); go_simp; try with_reducible rfl)
  try simp only [Act.put, List.getElem_toArray, List.getElem_cons_succ, List.getElem_cons_zero, List.setIfInBounds_toArray, List.set_cons_zero, List.set_cons_succ]
  refine wpAnyH_take (i := 2) (v := ?_) rfl (by kernel_rfl) (by kernel_rfl) (by kernel_rfl) (fun _ _ _ h => h) (Or.inl ⟨by rfl, ?_⟩) (by assumption) ?_
  rotate_left
  ·(intro w' hS; (try dsimp only at hS); go_simp; try with_reducible rfl)
  try simp only [Act.put, List.getElem_toArray, List.getElem_cons_succ, List.getElem_cons_zero, List.setIfInBounds_toArray, List.set_cons_zero, List.set_cons_succ]
  refine wpAnyH_take (i := 3) (v := ?_) rfl (by kernel_rfl) (by kernel_rfl) (by kernel_rfl) (fun _ _ _ h => h) (Or.inl ⟨by rfl, ?_⟩) (by assumption) ?_
  rotate_left
  ·(intro w' hS; (try dsimp only at hS); go_simp; try with_reducible rfl)
  try simp only [Act.put, List.getElem_toArray, List.getElem_cons_succ, List.getElem_cons_zero, List.setIfInBounds_toArray, List.set_cons_zero, List.set_cons_succ]
  refine wpAnyH_ready (rs := [4]) (by kernel_rfl) (by simp) ?_
  refine AllReadyH.cons rfl (fun K hK => ?_) AllReadyH.nil
  go_simp
  refine HCd.out.mono ?_
  rintro e wx ⟨A5, c5, rfl, hown, hb2⟩
  have S3 := Lib.hid (S2.out.on hb2)
  have HTw := Lib.hid (HTz.out wx S3.out.1 A5 c5 (rowB_own hown))
  clear S2 HCd HTz hown hb2
  go_wp2_with fail
  refine hK.out _ _ (S3.out.2.c0) (fun hHeld => ?_)
  clear hK K
  try simp only [Act.put, List.getElem_toArray, List.getElem_cons_succ, List.getElem_cons_zero, List.setIfInBounds_toArray, List.set_cons_zero, List.set_cons_succ]
  refine wpAnyH_ready (rs := [5]) (by kernel_rfl) (by simp) ?_
  refine AllReadyH.cons rfl (fun K hK => ?_) AllReadyH.nil
  go_simp
  refine HTw.out.mono ?_
  rintro e wy ⟨N, ok, A6, n6, c6, ht, hl6, rfl, hown, hle, hb3⟩
  have S4 := Lib.hid (S3.out.on hb3)
  subst hl6
  have HP := Lib.hid (show JoiP max xs L M w (.returned (.tuple #[.slice A6 N.length c6, .bool ok])) wy from ⟨N, ok, A6, c6, rfl, own_base hown S3.out.1.size, HE.out N ok ht, hle, S4.out.1⟩)
  clear S3 HTw HE ht hown hle hb3
  generalize N.length = n6 at HP ⊢
  go_wp2_with fail
  refine hK.out _ _ (S4.out.2.c0) (fun hHeld => ?_)
  clear hK K
  try simp only [Act.put, List.getElem_toArray, List.getElem_cons_succ, List.getElem_cons_zero, List.setIfInBounds_toArray, List.set_cons_zero, List.set_cons_succ]
  refine wpAnyH_take (i := 6) (v := ?_) rfl (by kernel_rfl) (by kernel_rfl) (by kernel_rfl) (fun _ _ _ h => h) (Or.inl ⟨by rfl, ?_⟩) (by assumption) ?_
  rotate_left
  ·(intro w' hS; (try dsimp only at hS); go_simp; try with_reducible rfl)
  try simp only [Act.put, List.getElem_toArray, List.getElem_cons_succ, List.getElem_cons_zero, List.setIfInBounds_toArray, List.set_cons_zero, List.set_cons_succ]
  refine wpAnyH_take (i := 7) (v := ?_) rfl (by kernel_rfl) (by kernel_rfl) (by kernel_rfl) (fun _ _ _ h => h) (Or.inl ⟨by rfl, ?_⟩) (by assumption) ?_
  rotate_left
  ·(intro w' hS; (try dsimp only at hS); go_simp; try with_reducible rfl)
  try simp only [Act.put, List.getElem_toArray, List.getElem_cons_succ, List.getElem_cons_zero, List.setIfInBounds_toArray, List.set_cons_zero, List.set_cons_succ]
  refine wpAnyH_take (i := 8) (v := ?_) rfl (by kernel_rfl) (by kernel_rfl) (by kernel_rfl) (fun _ _ _ h => h) (Or.inl ⟨by rfl, ?_⟩) (by assumption) ?_
  rotate_left
  ·(intro w' hS; (try dsimp only at hS); go_simp; try with_reducible rfl)
  try simp only [Act.put, List.getElem_toArray, List.getElem_cons_succ, List.getElem_cons_zero, List.setIfInBounds_toArray, List.set_cons_zero, List.set_cons_succ]
  refine wpAnyH_take (i := 9) (v := ?_) rfl (by kernel_rfl) (by kernel_rfl) (by kernel_rfl) (fun _ _ _ h => h) (Or.inl ⟨by rfl, ?_⟩) (by assumption) ?_
  rotate_left
  ·(intro w' hS; (try dsimp only at hS); go_simp; try with_reducible rfl)
  try simp only [Act.put, List.getElem_toArray, List.getElem_cons_succ, List.getElem_cons_zero, List.setIfInBounds_toArray, List.set_cons_zero, List.set_cons_succ]
  refine wpAnyH_done (by kernel_rfl) ?_ _
  refine NoPanic.normal ?_
  clear hHeld
  go_wp2
  exact bodyPost_ret (v := .tuple #[.slice A6 n6 c6, .bool ok]) (by simp [results, Tryz.results22, go_sem]) rfl HP.out
set_option maxHeartbeats 1000000 in
theorem iHigherOf (w : World) (A : Option Addr) (n cap B : Nat) (xs : List Int) (hx : xs.length = n) (hn : (n : Int) ≤ 9223372036854775807) (h : RowB w B A xs) (hB : B ≤ w.heap.size)
  (A' : Option Addr) (n' cap' B' : Nat) (L : List Dm) (hL : L.length = n') (hn' : (n' : Int) ≤ 9223372036854775807) (hf : Fits L) (h' : RowM w B' A' L) (hB' : B' ≤ w.heap.size) (hcap : n' ≤ cap')
  (A'' : Option Addr) (n'' cap'' B'' : Nat) (M : List Dm) (hM : M.length = n'') (hn'' : (n'' : Int) ≤ 9223372036854775807) (hf' : Fits M) (h'' : RowM w B'' A'' M) (hB'' : B'' ≤ w.heap.size) (hcap' : n'' ≤ cap'')
  (iSort : ∀ (W : World) (A1 : Option Addr) (n c : Nat) (L : List Dm), L.length = n → (n : Int) ≤ 1048576 → Fits L → RowM W W.heap.size A1 L → Calls Tryz.prog 71 #[.slice A1 n c] W (DmPost (sortM L) (sortM L).length W)) :
  Calls Tryz.prog 17 #[.agg #[.slice A n cap], .slice A' n' cap', .slice A'' n'' cap''] w (JoiP max xs L M w) := by
 have HS := Lib.hid (r1_start w (.slice A n cap))
 have HBe := Lib.hid (fun W (hb : Below w.heap.size w W) => iBetweenGreater W A n cap B xs hx hn (h.below hb hB) (by have := hb.size; omega) A' n' cap' B' L hL hn' hf (h'.below hb hB') (by have := hb.size; omega) hcap A'' n'' cap'' B'' M hM hn'' hf' (h''.below hb hB'') (by have := hb.size; omega) hcap' iSort)
 clear hx hn h hB hL hn' h' hB' hf hcap hM hn'' h'' hB'' hf' hcap' iSort
 go_enter Tryz.func17, Tryz.ntmps17
 go_wp2_with fail
 have c0 := HS.out.2.c0
 refine (HBe.out _ HS.out.1).mono ?_
 rintro e w1 ⟨N, ok, A6, c6, rfl, hown, hj, hle, hb1⟩
 have HP := Lib.hid (show JoiP max xs L M w (.returned (.tuple #[.slice A6 N.length c6, .bool ok])) w1 from ⟨N, ok, A6, c6, rfl, own_base hown HS.out.1.size, hj, hle, HS.out.1.trans (hb1.mono HS.out.1.size)⟩)
 clear HS HBe hown hj hle hb1 c0
 generalize N.length = n6 at HP ⊢
 go_wp2
 exact bodyPost_ret (v := .tuple #[.slice A6 n6 c6, .bool ok]) (by simp [results, Tryz.results17, go_sem]) rfl HP.out
end Go.Proofs.YtmajllgfmclcoaaGreat.Jn
