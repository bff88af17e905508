/- TfI, JoT in one text. -/
import Derived.Test.YtmajllgfmclcoaaGreatDoorMd34
import Derived.Test.YtmajllgfmclcoaaGreatDoorMd31
import Derived.Test.YtmajllgfmclcoaaGreatDoorMd32
set_option linter.unusedVariables false
set_option linter.unusedSimpArgs false
set_option maxRecDepth 100000
namespace Go.Proofs.YtmajllgfmclcoaaGreatDoor.Cor
open Go.RowKit Go.Proofs.YtmajllgfmclcoaaGreatDoor.Cell Dms Til Hgt Go.Joins
open Reg (ints RowB rowB_own own_below own_base)
def TfP (xs hs : List Int) (w : World) (e : Ending) (w' : World) : Prop :=
 ∃ (M : List Dm) (ok : Bool) (A : Option Addr) (n c : Nat), tfR xs hs M ok ∧ M.length = n ∧ e = .returned (.tuple #[.slice A n c, .bool ok]) ∧ w'.ownsRow w.heap.size 63 3 (.slice A n c) n (rowM M) ∧ n ≤ c ∧ Below w.heap.size w w'
theorem sort_fits (C : List Dm) : Fits (sortM C) := ok_fits (fun e he => (((sortM_good C).2 e).1 he).2)
set_option maxHeartbeats 2000000 in
theorem iTilingFrom (w : World) (A : Option Addr) (n cap B : Nat) (xs : List Int) (hx : xs.length = n) (hn : (n : Int) ≤ 9223372036854775807) (h : RowB w B A xs) (hB : B ≤ w.heap.size)
  (A' : Option Addr) (n' cap' B' : Nat) (hs : List Int) (hh : hs.length = n') (hn' : (n' : Int) ≤ 9223372036854775807) (h' : RowB w B' A' hs) (hB' : B' ≤ w.heap.size)
  (iSort : ∀ (W : World) (A1 : Option Addr) (n c : Nat) (L : List Dm), L.length = n → (n : Int) ≤ 1048576 → Fits L → RowM W W.heap.size A1 L → Calls Tryz.prog 106 #[.slice A1 n c] W (DmPost (sortM L) (sortM L).length W)) :
  Calls Tryz.prog 50 #[.agg #[.slice A n cap], .slice A' n' cap'] w (TfP xs hs w) := by
 have HS := Lh (r1_start w (.slice A n cap))
 have HNo := Lh (fun W (hb : Below w.heap.size w W) (ht : tfR xs hs [] false) => show TfP xs hs w (.returned (.tuple #[.slice none 0 0, .bool false])) W from ⟨[], false, none, 0, 0, ht, rfl, rfl, ⟨rfl, .inl ⟨rfl, rfl⟩⟩, Nat.le_refl _, hb⟩)
 by_cases h81 : n' = 81
 rotate_left
 ·have hne : ((n' : Int) != 81) = true := by simp; omega
  have HT := Lh (tf_short (xs := xs) (hs := hs) (by rw [hh]; exact h81))
  clear hx hn h hB hh hn' h' hB' iSort h81
  go_enter Tryz.func50, Tryz.ntmps50
  go_wp2
  exact bodyPost_ret (v := .tuple #[.slice none 0 0, .bool false]) (by simp [results, Tryz.results50, go_sem]) rfl (HNo.out _ HS.out.1 HT.out)
 ·subst h81
  have HDv := Lh (fun W (hb : Below w.heap.size w W) => iDivided W A' cap' B' hs hh (h'.below hb hB') (by have := hb.size; omega) A n cap B xs hx hn (h.below hb hB) (by have := hb.size; omega) iSort)
  have HHg := Lh (fun W (hb : Below w.heap.size w W) A1 m c1 (L : List Dm) (hL : L.length = m) (hm : m ≤ 1000000) hf (hr : RowM W W.heap.size A1 L) hcp => iHeightsOf W A n cap B xs hx hn (h.below hb hB) (by have := hb.size; omega) A1 m c1 W.heap.size L hL (by omega) hf hr NR hcp)
  have HEq := Lh (fun W (hb : Below w.heap.size w W) A1 m c1 (ys : List Int) (hy : ys.length = m) (hm : m ≤ 1000000) (hr : RowB W W.heap.size A1 ys) => iEqualI W A1 A' m 81 c1 cap' W.heap.size B' ys hs hy hh (by omega) hr (h'.below hb hB'))
  have HYs := Lh (fun M h (hr : hgtR xs M h) (e : h = hs) => tf_yes (xs := xs) (hs := hs) (M := M) hh hr e)
  clear hx hn h hB hh hn' h' hB' iSort
  go_enter Tryz.func50, Tryz.ntmps50
  go_wp2_with fail
  have c0 := HS.out.2.c0
  refine (HDv.out _ HS.out.1).mono ?_
  rintro e w2 ⟨C, hC, hCl, A2, c2, rfl, hle, hown, hb2⟩
  have hbz := HS.out.1.size
  have S2 := HS.out.on hb2
  have HC := Lh hC
  have HO2 := Lh hown
  have HB2 := Lh hb2
  have HF2 := Lh (sort_fits C)
  have HLe := Lh hle
  clear hC hown hle HS HDv c0
  obtain ⟨M, hM⟩ : ∃ M, sortM C = M := ⟨_, rfl⟩
  have HM := Lh hM
  rw [hM] at HO2 HF2 HLe ⊢
  have hml : M.length ≤ 1000000 := by rw [← hM]; have := sortM_length C; omega
  obtain ⟨m, hm⟩ : ∃ m, M.length = m := ⟨_, rfl⟩
  have HMl := Lh hm
  rw [hm] at HO2 HLe hml ⊢
  clear hM hm hb2 hCl
  have c0 := S2.2.c0
  go_wp2_with fail
  refine (HHg.out _ S2.1 _ _ _ M HMl.out hml HF2.out (rowM_own HO2.out) HLe.out).mono ?_
  rintro e w3 ⟨h3, A3, n3, c3, hr3, hl3, rfl, hown3, hb3⟩
  have S3 := S2.on hb3
  have HR3 := Lh hr3
  have h3l : n3 ≤ 1000000 := by have := hgtR_len hr3; omega
  have HE3 := Lh (HEq.out w3 S3.1 A3 n3 c3 h3 hl3 h3l (rowB_own hown3))
  have HO3 := Lh (own_base (own_below HO2.out hb3 NR) hbz)
  clear hr3 hl3 hown3 hb3 S2 c0 HO2
  have HRM := Lh (show ∀ M', M' = M → True from fun _ _ => trivial)
  clear HRM
  go_wp2_with fail
  refine HE3.out.mono ?_
  rintro e w4 ⟨rfl, q, rfl⟩
  have HB4 := Lh (drewBelow S3.1 q)
  have HO4 := Lh (show (w3.drewN q).ownsRow w.heap.size 63 3 (.slice A2 m c2) m (rowM M) from own_below HO3.out (drewBelow (Below.refl _ _) q) NR)
  clear S3 HE3 HEq HHg hbz
  by_cases hq : h3 = hs
  ·have HTy := Lh (HYs.out M h3 HR3.out hq)
   rw [decide_eq_true hq]
   clear hq HYs
   go_wp2
   exact bodyPost_ret (v := .tuple #[.slice A2 m c2, .bool true]) (by simp [results, Tryz.results50, go_sem]) rfl ⟨M, true, A2, m, c2, HTy.out, HMl.out, rfl, HO4.out, HLe.out, HB4.out⟩
  ·have HTn := Lh (tf_no HC.out (by rw [HM.out]; exact HR3.out) hq)
   rw [decide_eq_false hq]
   clear hq HYs
   go_wp2
   exact bodyPost_ret (v := .tuple #[.slice none 0 0, .bool false]) (by simp [results, Tryz.results50, go_sem]) rfl (HNo.out _ HB4.out HTn.out)
end Go.Proofs.YtmajllgfmclcoaaGreatDoor.Cor
namespace Go.Proofs.YtmajllgfmclcoaaGreatDoor.Jn
open Go.RowKit Dms Til Hgt Go.Joins
open Reg (ints RowB rowB_own own_below own_base)
open Cor (TfP iTilingFrom)
theorem joi_no {m : Int → Int → Int} {xs : List Int} {L M : List Dm} {w W : World} (h : joinR m xs L M [] false) (hb : Below w.heap.size w W) : JoiP m xs L M w (.returned (.tuple #[.slice none 0 0, .bool false])) W :=
 ⟨[], false, none, 0, rfl, ⟨rfl, .inl ⟨rfl, rfl⟩⟩, h, Nat.le_refl _, hb⟩
set_option maxHeartbeats 4000000 in
theorem iBetweenLesser (w : World) (A : Option Addr) (n cap B : Nat) (xs : List Int) (hx : xs.length = n) (hn : (n : Int) ≤ 9223372036854775807) (h : RowB w B A xs) (hB : B ≤ w.heap.size)
  (A' : Option Addr) (n' cap' B' : Nat) (L : List Dm) (hL : L.length = n') (hn' : (n' : Int) ≤ 9223372036854775807) (hf : Fits L) (h' : RowM w B' A' L) (hB' : B' ≤ w.heap.size) (hcap : n' ≤ cap')
  (A'' : Option Addr) (n'' cap'' B'' : Nat) (M : List Dm) (hM : M.length = n'') (hn'' : (n'' : Int) ≤ 9223372036854775807) (hf' : Fits M) (h'' : RowM w B'' A'' M) (hB'' : B'' ≤ w.heap.size) (hcap' : n'' ≤ cap'')
  (iSort : ∀ (W : World) (A1 : Option Addr) (n c : Nat) (L : List Dm), L.length = n → (n : Int) ≤ 1048576 → Fits L → RowM W W.heap.size A1 L → Calls Tryz.prog 106 #[.slice A1 n c] W (DmPost (sortM L) (sortM L).length W)) :
  Calls Tryz.prog 28 #[.agg #[.slice A n cap], .slice A' n' cap', .slice A'' n'' cap'', .func (.func 29) #[] #[]] w (JoiP min xs L M w) := by
 have HS := Lh (r1_start w (.slice A n cap))
 have HBo := Lh (fun W (hb : Below w.heap.size w W) => iBoth W A n cap B xs hx hn (h.below hb hB) (by have := hb.size; omega) A' n' cap' B' L hL hn' hf (h'.below hb hB') (by have := hb.size; omega) hcap A'' n'' cap'' B'' M hM hn'' hf' (h''.below hb hB'') (by have := hb.size; omega) hcap')
 have HTf := Lh (fun W (hb : Below w.heap.size w W) A5 c5 (hs : List Int) (hl : hs.length = 81) (r : RowB W W.heap.size A5 hs) => iTilingFrom W A n cap B xs hx hn (h.below hb hB) (by have := hb.size; omega) A5 81 c5 W.heap.size hs hl (by omega) r NR iSort)
 clear hx hn h hB hL hn' h' hB' hf hcap hM hn'' h'' hB'' hf' hcap' iSort
 go_enter Tryz.func28, Tryz.ntmps28
 go_wp2_with fail
 have c0 := HS.out.2.c0
 refine (HBo.out _ HS.out.1).mono ?_
 rintro e w1 ⟨hs, gs, r1, r2, hb1, ⟨hno, rfl⟩ | ⟨t, A1, c1, A2, c2, rfl, Q1, Q2⟩⟩
 ·have S1 := HS.out.on hb1
  have HE := Lh (joi_no (w := w) (W := w1) (join_no (m := min) r1 r2 hno) S1.1)
  clear HS HBo HTf hb1 r1 r2 hno c0 S1
  go_wp2
  exact bodyPost_ret (v := .tuple #[.slice none 0 0, .bool false]) (by simp [results, Tryz.results28, go_sem]) rfl HE.out
 ·have S1 := Lh (HS.out.on hb1)
  have HE := Lh (fun N ok h => join_of (m := min) (N := N) (ok := ok) r1 r2 t h)
  have HCh := Lh (fun W (hb : Below w1.heap.size w1 W) => iChosenLesser W A1 81 c1 W.heap.size hs t.lh ((Q1.below hb NR).mono hb.size) NR A2 c2 W.heap.size gs t.lg ((Q2.below hb NR).mono hb.size) NR rfl)
  have HTz := Lh (fun W (hb : Below w.heap.size w W) A5 c5 (r : RowB W W.heap.size A5 (List.zipWith min hs gs)) => HTf.out W hb A5 c5 _ (zw_len min t.lh t.lg) r)
  generalize List.zipWith min hs gs = Z at HE HCh HTz
  clear HS HBo HTf hb1 r1 r2 t c0 Q1 Q2
  go_upto_region 4 with fail
  refine wp_region_noPanic ?_
  refine wp_region_held_drew (S := (fun w' => w'.cell? ⟨w.heap.size, 0, none⟩ = some (.slice A n cap))) (by kernel_rfl) (show w1.drew.cell? _ = _ from S1.out.2.c0) (fun hHeld => ?_)
  have HCd := Lh (HCh.out w1.drew ((Below.refl _ w1).drew))
  have S2 := Lh (show R1 w (.slice A n cap) w1.drew from ⟨S1.out.1.drew, S1.out.2⟩)
  clear S1 HCh
  generalize w1.drew = W2 at HCd S2 hHeld ⊢
  refine tk 0 ?_; try simp only [Act.put, zk]
  refine tk 1 ?_; try simp only [Act.put, zk]
  refine tk 2 ?_; try simp only [Act.put, zk]
  refine tk 3 ?_; try simp only [Act.put, zk]
  refine tr 4 fun K hK => ?_
  go_simp
  refine HCd.out.mono ?_
  rintro e wx ⟨A5, c5, rfl, hown, hb2⟩
  have S3 := Lh (S2.out.on hb2)
  have HTw := Lh (HTz.out wx S3.out.1 A5 c5 (rowB_own hown))
  clear S2 HCd HTz hown hb2
  go_wp2_with fail
  refine hK.out _ _ (S3.out.2.c0) (fun hHeld => ?_)
  clear hK K
  try simp only [Act.put, zk]
  refine tr 5 fun K hK => ?_
  go_simp
  refine HTw.out.mono ?_
  rintro e wy ⟨N, ok, A6, n6, c6, ht, hl6, rfl, hown, hle, hb3⟩
  have S4 := Lh (S3.out.on hb3)
  subst hl6
  have HP := Lh (show JoiP min xs L M w (.returned (.tuple #[.slice A6 N.length c6, .bool ok])) wy from ⟨N, ok, A6, c6, rfl, own_base hown S3.out.1.size, HE.out N ok ht, hle, S4.out.1⟩)
  clear S3 HTw HE ht hown hle hb3
  generalize N.length = n6 at HP ⊢
  go_wp2_with fail
  refine hK.out _ _ (S4.out.2.c0) (fun hHeld => ?_)
  clear hK K
  try simp only [Act.put, zk]
  refine tk 6 ?_; try simp only [Act.put, zk]
  refine tk 7 ?_; try simp only [Act.put, zk]
  refine tk 8 ?_; try simp only [Act.put, zk]
  refine tk 9 ?_; try simp only [Act.put, zk]
  refine wpAnyH_done (by kernel_rfl) (NoPanic.normal ?_) _
  clear hHeld
  go_wp2
  exact bodyPost_ret (v := .tuple #[.slice A6 n6 c6, .bool ok]) (by simp [results, Tryz.results28, go_sem]) rfl HP.out
set_option maxHeartbeats 1000000 in
theorem iLowerOf (w : World) (A : Option Addr) (n cap B : Nat) (xs : List Int) (hx : xs.length = n) (hn : (n : Int) ≤ 9223372036854775807) (h : RowB w B A xs) (hB : B ≤ w.heap.size)
  (A' : Option Addr) (n' cap' B' : Nat) (L : List Dm) (hL : L.length = n') (hn' : (n' : Int) ≤ 9223372036854775807) (hf : Fits L) (h' : RowM w B' A' L) (hB' : B' ≤ w.heap.size) (hcap : n' ≤ cap')
  (A'' : Option Addr) (n'' cap'' B'' : Nat) (M : List Dm) (hM : M.length = n'') (hn'' : (n'' : Int) ≤ 9223372036854775807) (hf' : Fits M) (h'' : RowM w B'' A'' M) (hB'' : B'' ≤ w.heap.size) (hcap' : n'' ≤ cap'')
  (iSort : ∀ (W : World) (A1 : Option Addr) (n c : Nat) (L : List Dm), L.length = n → (n : Int) ≤ 1048576 → Fits L → RowM W W.heap.size A1 L → Calls Tryz.prog 106 #[.slice A1 n c] W (DmPost (sortM L) (sortM L).length W)) :
  Calls Tryz.prog 8 #[.agg #[.slice A n cap], .slice A' n' cap', .slice A'' n'' cap''] w (JoiP min xs L M w) := by
 have HS := Lh (r1_start w (.slice A n cap))
 have HBe := Lh (fun W (hb : Below w.heap.size w W) => iBetweenLesser W A n cap B xs hx hn (h.below hb hB) (by have := hb.size; omega) A' n' cap' B' L hL hn' hf (h'.below hb hB') (by have := hb.size; omega) hcap A'' n'' cap'' B'' M hM hn'' hf' (h''.below hb hB'') (by have := hb.size; omega) hcap' iSort)
 clear hx hn h hB hL hn' h' hB' hf hcap hM hn'' h'' hB'' hf' hcap' iSort
 go_enter Tryz.func8, Tryz.ntmps8
 go_wp2_with fail
 have c0 := HS.out.2.c0
 refine (HBe.out _ HS.out.1).mono ?_
 rintro e w1 ⟨N, ok, A6, c6, rfl, hown, hj, hle, hb1⟩
 have HP := Lh (show JoiP min xs L M w (.returned (.tuple #[.slice A6 N.length c6, .bool ok])) w1 from ⟨N, ok, A6, c6, rfl, own_base hown HS.out.1.size, hj, hle, HS.out.1.trans (hb1.mono HS.out.1.size)⟩)
 clear HS HBe hown hj hle hb1 c0
 generalize N.length = n6 at HP ⊢
 go_wp2
 exact bodyPost_ret (v := .tuple #[.slice A6 n6 c6, .bool ok]) (by simp [results, Tryz.results8, go_sem]) rfl HP.out
set_option maxHeartbeats 4000000 in
theorem iBetweenGreater (w : World) (A : Option Addr) (n cap B : Nat) (xs : List Int) (hx : xs.length = n) (hn : (n : Int) ≤ 9223372036854775807) (h : RowB w B A xs) (hB : B ≤ w.heap.size)
  (A' : Option Addr) (n' cap' B' : Nat) (L : List Dm) (hL : L.length = n') (hn' : (n' : Int) ≤ 9223372036854775807) (hf : Fits L) (h' : RowM w B' A' L) (hB' : B' ≤ w.heap.size) (hcap : n' ≤ cap')
  (A'' : Option Addr) (n'' cap'' B'' : Nat) (M : List Dm) (hM : M.length = n'') (hn'' : (n'' : Int) ≤ 9223372036854775807) (hf' : Fits M) (h'' : RowM w B'' A'' M) (hB'' : B'' ≤ w.heap.size) (hcap' : n'' ≤ cap'')
  (iSort : ∀ (W : World) (A1 : Option Addr) (n c : Nat) (L : List Dm), L.length = n → (n : Int) ≤ 1048576 → Fits L → RowM W W.heap.size A1 L → Calls Tryz.prog 106 #[.slice A1 n c] W (DmPost (sortM L) (sortM L).length W)) :
  Calls Tryz.prog 28 #[.agg #[.slice A n cap], .slice A' n' cap', .slice A'' n'' cap'', .func (.func 30) #[] #[]] w (JoiP max xs L M w) := by
 have HS := Lh (r1_start w (.slice A n cap))
 have HBo := Lh (fun W (hb : Below w.heap.size w W) => iBoth W A n cap B xs hx hn (h.below hb hB) (by have := hb.size; omega) A' n' cap' B' L hL hn' hf (h'.below hb hB') (by have := hb.size; omega) hcap A'' n'' cap'' B'' M hM hn'' hf' (h''.below hb hB'') (by have := hb.size; omega) hcap')
 have HTf := Lh (fun W (hb : Below w.heap.size w W) A5 c5 (hs : List Int) (hl : hs.length = 81) (r : RowB W W.heap.size A5 hs) => iTilingFrom W A n cap B xs hx hn (h.below hb hB) (by have := hb.size; omega) A5 81 c5 W.heap.size hs hl (by omega) r NR iSort)
 clear hx hn h hB hL hn' h' hB' hf hcap hM hn'' h'' hB'' hf' hcap' iSort
 go_enter Tryz.func28, Tryz.ntmps28
 go_wp2_with fail
 have c0 := HS.out.2.c0
 refine (HBo.out _ HS.out.1).mono ?_
 rintro e w1 ⟨hs, gs, r1, r2, hb1, ⟨hno, rfl⟩ | ⟨t, A1, c1, A2, c2, rfl, Q1, Q2⟩⟩
 ·have S1 := HS.out.on hb1
  have HE := Lh (joi_no (w := w) (W := w1) (join_no (m := max) r1 r2 hno) S1.1)
  clear HS HBo HTf hb1 r1 r2 hno c0 S1
  go_wp2
  exact bodyPost_ret (v := .tuple #[.slice none 0 0, .bool false]) (by simp [results, Tryz.results28, go_sem]) rfl HE.out
 ·have S1 := Lh (HS.out.on hb1)
  have HE := Lh (fun N ok h => join_of (m := max) (N := N) (ok := ok) r1 r2 t h)
  have HCh := Lh (fun W (hb : Below w1.heap.size w1 W) => iChosenGreater W A1 81 c1 W.heap.size hs t.lh ((Q1.below hb NR).mono hb.size) NR A2 c2 W.heap.size gs t.lg ((Q2.below hb NR).mono hb.size) NR rfl)
  have HTz := Lh (fun W (hb : Below w.heap.size w W) A5 c5 (r : RowB W W.heap.size A5 (List.zipWith max hs gs)) => HTf.out W hb A5 c5 _ (zw_len max t.lh t.lg) r)
  generalize List.zipWith max hs gs = Z at HE HCh HTz
  clear HS HBo HTf hb1 r1 r2 t c0 Q1 Q2
  go_upto_region 4 with fail
  refine wp_region_noPanic ?_
  refine wp_region_held_drew (S := (fun w' => w'.cell? ⟨w.heap.size, 0, none⟩ = some (.slice A n cap))) (by kernel_rfl) (show w1.drew.cell? _ = _ from S1.out.2.c0) (fun hHeld => ?_)
  have HCd := Lh (HCh.out w1.drew ((Below.refl _ w1).drew))
  have S2 := Lh (show R1 w (.slice A n cap) w1.drew from ⟨S1.out.1.drew, S1.out.2⟩)
  clear S1 HCh
  generalize w1.drew = W2 at HCd S2 hHeld ⊢
  refine tk 0 ?_; try simp only [Act.put, zk]
  refine tk 1 ?_; try simp only [Act.put, zk]
  refine tk 2 ?_; try simp only [Act.put, zk]
  refine tk 3 ?_; try simp only [Act.put, zk]
  refine tr 4 fun K hK => ?_
  go_simp
  refine HCd.out.mono ?_
  rintro e wx ⟨A5, c5, rfl, hown, hb2⟩
  have S3 := Lh (S2.out.on hb2)
  have HTw := Lh (HTz.out wx S3.out.1 A5 c5 (rowB_own hown))
  clear S2 HCd HTz hown hb2
  go_wp2_with fail
  refine hK.out _ _ (S3.out.2.c0) (fun hHeld => ?_)
  clear hK K
  try simp only [Act.put, zk]
  refine tr 5 fun K hK => ?_
  go_simp
  refine HTw.out.mono ?_
  rintro e wy ⟨N, ok, A6, n6, c6, ht, hl6, rfl, hown, hle, hb3⟩
  have S4 := Lh (S3.out.on hb3)
  subst hl6
  have HP := Lh (show JoiP max xs L M w (.returned (.tuple #[.slice A6 N.length c6, .bool ok])) wy from ⟨N, ok, A6, c6, rfl, own_base hown S3.out.1.size, HE.out N ok ht, hle, S4.out.1⟩)
  clear S3 HTw HE ht hown hle hb3
  generalize N.length = n6 at HP ⊢
  go_wp2_with fail
  refine hK.out _ _ (S4.out.2.c0) (fun hHeld => ?_)
  clear hK K
  try simp only [Act.put, zk]
  refine tk 6 ?_; try simp only [Act.put, zk]
  refine tk 7 ?_; try simp only [Act.put, zk]
  refine tk 8 ?_; try simp only [Act.put, zk]
  refine tk 9 ?_; try simp only [Act.put, zk]
  refine wpAnyH_done (by kernel_rfl) (NoPanic.normal ?_) _
  clear hHeld
  go_wp2
  exact bodyPost_ret (v := .tuple #[.slice A6 n6 c6, .bool ok]) (by simp [results, Tryz.results28, go_sem]) rfl HP.out
set_option maxHeartbeats 1000000 in
theorem iHigherOf (w : World) (A : Option Addr) (n cap B : Nat) (xs : List Int) (hx : xs.length = n) (hn : (n : Int) ≤ 9223372036854775807) (h : RowB w B A xs) (hB : B ≤ w.heap.size)
  (A' : Option Addr) (n' cap' B' : Nat) (L : List Dm) (hL : L.length = n') (hn' : (n' : Int) ≤ 9223372036854775807) (hf : Fits L) (h' : RowM w B' A' L) (hB' : B' ≤ w.heap.size) (hcap : n' ≤ cap')
  (A'' : Option Addr) (n'' cap'' B'' : Nat) (M : List Dm) (hM : M.length = n'') (hn'' : (n'' : Int) ≤ 9223372036854775807) (hf' : Fits M) (h'' : RowM w B'' A'' M) (hB'' : B'' ≤ w.heap.size) (hcap' : n'' ≤ cap'')
  (iSort : ∀ (W : World) (A1 : Option Addr) (n c : Nat) (L : List Dm), L.length = n → (n : Int) ≤ 1048576 → Fits L → RowM W W.heap.size A1 L → Calls Tryz.prog 106 #[.slice A1 n c] W (DmPost (sortM L) (sortM L).length W)) :
  Calls Tryz.prog 9 #[.agg #[.slice A n cap], .slice A' n' cap', .slice A'' n'' cap''] w (JoiP max xs L M w) := by
 have HS := Lh (r1_start w (.slice A n cap))
 have HBe := Lh (fun W (hb : Below w.heap.size w W) => iBetweenGreater W A n cap B xs hx hn (h.below hb hB) (by have := hb.size; omega) A' n' cap' B' L hL hn' hf (h'.below hb hB') (by have := hb.size; omega) hcap A'' n'' cap'' B'' M hM hn'' hf' (h''.below hb hB'') (by have := hb.size; omega) hcap' iSort)
 clear hx hn h hB hL hn' h' hB' hf hcap hM hn'' h'' hB'' hf' hcap' iSort
 go_enter Tryz.func9, Tryz.ntmps9
 go_wp2_with fail
 have c0 := HS.out.2.c0
 refine (HBe.out _ HS.out.1).mono ?_
 rintro e w1 ⟨N, ok, A6, c6, rfl, hown, hj, hle, hb1⟩
 have HP := Lh (show JoiP max xs L M w (.returned (.tuple #[.slice A6 N.length c6, .bool ok])) w1 from ⟨N, ok, A6, c6, rfl, own_base hown HS.out.1.size, hj, hle, HS.out.1.trans (hb1.mono HS.out.1.size)⟩)
 clear HS HBe hown hj hle hb1 c0
 generalize N.length = n6 at HP ⊢
 go_wp2
 exact bodyPost_ret (v := .tuple #[.slice A6 n6 c6, .bool ok]) (by simp [results, Tryz.results9, go_sem]) rfl HP.out
end Go.Proofs.YtmajllgfmclcoaaGreatDoor.Jn
