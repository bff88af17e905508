/- RegCn, TilT, HgI, LSum, JoI in one text. -/
import Derived.Test.YtmajllgfmclcoaaGreatDoorMe15
import Derived.Test.YtmajllgfmclcoaaGreatDoorMe38
import Derived.Test.YtmajllgfmclcoaaGreatDoorMe24
import Derived.Test.YtmajllgfmclcoaaGreatDoorMe36
import Derived.Test.YtmajllgfmclcoaaGreatDoorMe37
import Derived.Test.YtmajllgfmclcoaaGreatDoorMe09
import Derived.Test.YtmajllgfmclcoaaGreatDoorMe35
import Derived.Test.YtmajllgfmclcoaaGreatDoorMe10
import Derived.Test.YtmajllgfmclcoaaGreatDoorMe25
import Derived.Test.YtmajllgfmclcoaaGreatDoorMe00
import Derived.Deep.DeepAppendRoom

namespace Go.Proofs.YtmajllgfmclcoaaGreatDoor.Reg
set_option linter.unusedVariables false
open Go.RowKit Go.Proofs.YtmajllgfmclcoaaGreatDoor.Pure Go.Proofs.YtmajllgfmclcoaaGreatDoor.Cell Go.Joins

def countR (xs : List Int) : Int := ((cellsR xs).length : Int)

set_option maxHeartbeats 400000 in
theorem sCountCells (w : World) (A : Option Addr) (n cap B : Nat) (xs : List Int) (hx : xs.length = n) (hn : (n : Int) ≤ 9223372036854775807) (h : RowB w B A xs) (hB : B ≤ w.heap.size) :
  Calls Tryz.prog 40 #[.agg #[.slice A n cap]] w (Num (countR xs) w) := by
 have HC := Lib.hid (fun W (hb : Below w.heap.size w W) => sCellsOf W A n cap B xs hx hn (h.below hb hB) (by have := hb.size; omega))
 have HB := Lib.hid (fun (o1 : Obj) => below_alloc1 w o1)
 have HE := Lib.hid (show countR xs = ((cellsR xs).length : Int) from rfl)
 clear hx hn h
 generalize cellsR xs = L at HC HE
 go_enter Tryz.func40, Tryz.ntmps40
 go_wp2_with fail
 refine (HC.out _ (HB.out _)).mono ?_
 rintro e w1 ⟨A1, cap1, rfl, _, hb1⟩
 have hb := (HB.out (.cells #[.slice A n cap] 26)).trans (hb1.mono (by simp))
 clear hb1
 go_wp2
 go_ret
 exact mkNum HE.out.symm hb
end Go.Proofs.YtmajllgfmclcoaaGreatDoor.Reg

namespace Go.Proofs.YtmajllgfmclcoaaGreatDoor.Til
set_option linter.unusedVariables false
set_option linter.unusedSimpArgs false
open Go.RowKit Go.Proofs.YtmajllgfmclcoaaGreatDoor.Pure Go.Proofs.YtmajllgfmclcoaaGreatDoor.Cell Go.Proofs.YtmajllgfmclcoaaGreatDoor.Cels Go.Proofs.YtmajllgfmclcoaaGreatDoor.Dms Go.Joins
open Go.Proofs.YtmajllgfmclcoaaGreatDoor.Reg hiding Yes RC rc_start

set_option maxRecDepth 100000 in
set_option maxHeartbeats 1000000 in
theorem iIsTiling (w : World) (A : Option Addr) (n cap B : Nat) (xs : List Int) (hx : xs.length = n) (hn : (n : Int) ≤ 9223372036854775807) (h : RowB w B A xs) (hB : B ≤ w.heap.size)
  (A' : Option Addr) (n' cap' B' : Nat) (L : List Dm) (hL : L.length = n') (hn' : (n' : Int) ≤ 9223372036854775807) (hf : Fits L) (h' : RowM w B' A' L) (hB' : B' ≤ w.heap.size) (hcap : n' ≤ cap') :
  Calls Tryz.prog 80 #[.agg #[.slice A n cap], .slice A' n' cap'] w (Bol (tilB xs L) w) := by
 have HS := Lib.hid (r1_start w (.slice A n cap))
 have HP := Lib.hid (fun W (hb : Below w.heap.size w W) => iIsPartial W A n cap B xs hx hn (h.below hb hB) (by have := hb.size; omega) A' n' cap' B' L hL hn' hf (h'.below hb hB') (by have := hb.size; omega) hcap)
 have HU := Lib.hid (fun W (hb : Below w.heap.size w W) => iUncoveredOf W A n cap B xs hx hn (h.below hb hB) (by have := hb.size; omega) A' n' cap' B' L hL hn' hf (h'.below hb hB') (by have := hb.size; omega))
 have HT := Lib.hid (show tilB xs L = (partB xs L && decide ((unc L (cellsR xs)).length = 0)) from rfl)
 have hu : (unc L (cellsR xs)).length ≤ 64 := Nat.le_trans (unc_length _ _) (cellsR_length xs)
 generalize tilB xs L = t at HT ⊢
 generalize partB xs L = p at HP HT
 unfold NbPost at HU
 generalize unc L (cellsR xs) = U at HU HT hu
 generalize hm : U.length = m at HU HT hu
 clear hx hn h hB hL hn' hf h' hB' hcap hm
 go_enter Tryz.func80, Tryz.ntmps80
 go_wp2_with fail
 have T0 := HS.out
 refine (HP.out _ T0.1).mono ?_
 rintro e w1 ⟨rfl, hb1⟩
 have T1 := T0.on hb1
 have c0 := T1.2.c0
 clear T0 HS hb1 HP
 cases p with
 | false =>
  go_wp2
  go_ret
  exact mkBol (by rw [HT.out]; rfl) T1.1
 | true =>
  go_wp2_with fail
  refine (HU.out _ T1.1).mono ?_
  rintro e w2 ⟨A2, cap2, rfl, _, hb2⟩
  have hb := T1.1.trans (hb2.mono T1.1.size)
  clear T1 c0 hb2 HU
  by_cases h0 : m = 0
  ·have HE := Lib.hid (show t = true by rw [HT.out, decide_eq_true h0]; rfl)
   have h1 : ((m : Nat) : Int) = 0 := by omega
   go_wp2
   go_ret
   exact mkBol (by simp [HE.out] <;> omega) hb
  ·have HE := Lib.hid (show t = false by rw [HT.out, decide_eq_false h0]; rfl)
   have h1 : ¬ ((m : Nat) : Int) = 0 := by omega
   go_wp2
   go_ret
   exact mkBol (by simp [HE.out] <;> omega) hb

set_option maxRecDepth 100000 in
set_option maxHeartbeats 1000000 in
theorem sIsTiling (w : World) (A : Option Addr) (n cap B : Nat) (xs : List Int) (hx : xs.length = n) (hn : (n : Int) ≤ 9223372036854775807) (h : RowB w B A xs) (hB : B ≤ w.heap.size)
  (A' : Option Addr) (n' cap' B' : Nat) (L : List Dm) (hL : L.length = n') (hn' : (n' : Int) ≤ 9223372036854775807) (h' : RowM w B' A' L) (hB' : B' ≤ w.heap.size) :
  Calls Tryz.prog 14 #[.agg #[.slice A n cap], .slice A' n' cap'] w (Bol (tilB xs L) w) := by
 have HS := Lib.hid (r1_start w (.slice A n cap))
 have HP := Lib.hid (fun W (hb : Below w.heap.size w W) => sIsPartial W A n cap B xs hx hn (h.below hb hB) (by have := hb.size; omega) A' n' cap' B' L hL hn' (h'.below hb hB') (by have := hb.size; omega))
 have HC := Lib.hid (fun W (hb : Below w.heap.size w W) => sCountCells W A n cap B xs hx hn (h.below hb hB) (by have := hb.size; omega))
 have HT := Lib.hid (fun hp => hL ▸ tilB_count (xs := xs) (L := L) hp)
 have HF := Lib.hid (show partB xs L = false → tilB xs L = false from fun hp => by unfold tilB; rw [hp]; rfl)
 have HN := Lib.hid (fun hp => hL ▸ part_length (xs := xs) (L := L) hp)
 have hc := cellsR_length xs
 generalize tilB xs L = t at HT HF ⊢
 generalize partB xs L = p at HP HT HF HN
 unfold countR at HC
 generalize (cellsR xs).length = m at HC HT hc
 clear hx hn h hB hL hn' h' hB'
 go_enter Tryz.func14, Tryz.ntmps14
 go_wp2_with fail
 have T0 := HS.out
 refine (HP.out _ T0.1).mono ?_
 rintro e w1 ⟨rfl, hb1⟩
 have T1 := T0.on hb1
 have c0 := T1.2.c0
 clear T0 HS hb1 HP
 cases p with
 | false =>
  have HE := Lib.hid (HF.out rfl)
  go_wp2
  go_ret
  exact mkBol (by rw [HE.out]) T1.1
 | true =>
  have hn2 : 2 * n' ≤ 64 := HN.out rfl
  have HT2 := Lib.hid (HT.out (by first | rfl | trivial))
  clear HF HN
  go_wp2_with fail
  refine (HC.out _ T1.1).mono ?_
  rintro e w2 ⟨rfl, hb2⟩
  have hb := T1.1.trans (hb2.mono T1.1.size)
  clear T1 c0 hb2 HC
  by_cases h0 : 2 * n' = m
  ·have HE := Lib.hid (show t = true by rw [HT2.out, decide_eq_true h0])
   have h1 : 2 * (n' : Int) = ((m : Nat) : Int) := by omega
   go_wp2
   go_ret
   exact mkBol (by simp [HE.out] <;> omega) hb
  ·have HE := Lib.hid (show t = false by rw [HT2.out, decide_eq_false h0])
   have h1 : ¬ 2 * (n' : Int) = ((m : Nat) : Int) := by omega
   go_wp2
   go_ret
   exact mkBol (by simp [HE.out] <;> omega) hb
end Go.Proofs.YtmajllgfmclcoaaGreatDoor.Til

namespace Go.Proofs.YtmajllgfmclcoaaGreatDoor.Cor
set_option linter.unusedVariables false
set_option linter.unusedSimpArgs false
set_option maxRecDepth 100000
open Go.RowKit Go.Proofs.YtmajllgfmclcoaaGreatDoor.Pure Go.Proofs.YtmajllgfmclcoaaGreatDoor.Dms Go.Proofs.YtmajllgfmclcoaaGreatDoor.Til Go.Proofs.YtmajllgfmclcoaaGreatDoor.Hgt Go.Joins
open Go.Proofs.YtmajllgfmclcoaaGreatDoor.Cels (rowC RowC rowC_own rowC_at)
open Go.Proofs.YtmajllgfmclcoaaGreatDoor.Reg (ints RowIn rowIn_new Apart apart_of_below RowB)
open Go.Proofs.YtmajllgfmclcoaaGreatDoor.Flo (simB iIsSimple)
open Go.Proofs.YtmajllgfmclcoaaGreatDoor.Rpt (iRepeat rep_heap rep_own)

theorem rowF_ints (z : Int) (n : Nat) : Wg.rowF n (fun _ => z) = ints (List.replicate n z) := by
 unfold Wg.rowF Reg.ints
 simp [List.map_const']
theorem cell_cor (w : World) (x y : Int) (W : World) (e : W = (w.alloc (.cells #[.int .i64 x, .int .i64 y] 79)).alloc (.cells #[.int .i64 x, .int .i64 y] 96)) : AtC W (w.heap.size + 1) x y ∧ Below w.heap.size w W := by
 subst e
 refine ⟨?_, below_alloc2 w _ _⟩
 have k := AtC.new (w.alloc (.cells #[.int .i64 x, .int .i64 y] 79)) x y
 simpa using k
set_option maxHeartbeats 4000000 in
theorem iHeightsOf (w : World) (A : Option Addr) (n cap B : Nat) (xs : List Int) (hx : xs.length = n) (hn : (n : Int) ≤ 9223372036854775807) (h : RowB w B A xs) (hB : B ≤ w.heap.size)
  (A' : Option Addr) (n' cap' B' : Nat) (L : List Dm) (hL : L.length = n') (hn' : (n' : Int) ≤ 9223372036854775807) (hf : Fits L) (h' : RowM w B' A' L) (hB' : B' ≤ w.heap.size) (hcap : n' ≤ cap') :
  Calls Tryz.prog 53 #[.agg #[.slice A n cap], .slice A' n' cap'] w (HgtP xs L w) := by
 have HS := Lib.hid (r1_start w (.slice A n cap))
 have HSim := Lib.hid (fun W (hb : Below w.heap.size w W) => iIsSimple W A n cap B xs hx hn (h.below hb hB) (by have := hb.size; omega))
 have HTil := Lib.hid (fun W (hb : Below w.heap.size w W) => iIsTiling W A n cap B xs hx hn (h.below hb hB) (by have := hb.size; omega) A' n' cap' B' L hL hn' hf (h'.below hb hB') (by have := hb.size; omega) hcap)
 have HCl := Lib.hid (fun W (hb : Below w.heap.size w W) => Reg.iCellsOf W A n cap B xs hx hn (h.below hb hB) (by have := hb.size; omega))
 have HSp := Lib.hid (fun (ht : tilB xs L = true) (F : Nat → Int) hF W b v (hb : Below w.heap.size w W) (hbb : w.heap.size ≤ b) (k : List Int) x y hv hs hst hH ex ey => iSpread A' n' cap' xs L hL hn' hf ht F hF (unH k) W b v k x y (Nat.le_refl _) hv hs hst hH ((h'.below hb hB').mono (by omega)) ex ey)
 clear hx hn h hB hL hn' h' hB' hf hcap
 go_enter Tryz.func53, Tryz.ntmps53
 go_wp2_with fail
 refine (HSim.out _ HS.out.1).mono ?_
 rintro e w1 ⟨rfl, hb1⟩
 have S1 := HS.out.on hb1
 have c0 := S1.2.c0
 clear HS hb1 HSim
 have HEm := Lib.hid (fun (hno : ¬ (simB xs = true ∧ tilB xs L = true)) W (hb : Below w.heap.size w W) => show HgtP xs L w (.returned (.slice none 0 0)) W from
  ⟨[], none, 0, 0, .inr ⟨hno, rfl⟩, rfl, rfl, ⟨rfl, .inl ⟨rfl, rfl⟩⟩, hb⟩)
 cases hs : simB xs with
 | false =>
  have HE := HEm.out (by rw [hs]; simp)
  clear HEm hs
  go_wp2
  go_ret
  exact HE _ S1.1
 | true =>
  go_wp2_with fail
  refine (HTil.out _ S1.1).mono ?_
  rintro e w2 ⟨rfl, hb2⟩
  have S2 := S1.on hb2
  have c0 := S2.2.c0
  clear S1 hb2 HTil
  cases ht : tilB xs L with
  | false =>
   have HE := HEm.out (by rw [ht]; simp)
   clear HEm hs ht
   go_wp2
   go_ret
   exact HE _ S2.1
  | true =>
   clear HEm
   obtain ⟨ok, hp1, hone⟩ := sim_parts hs
   obtain ⟨f, hf⟩ := hts_ex hs ht
   obtain ⟨cx0, cy0, hcell⟩ := cell_ex ok hp1
   obtain ⟨hl1, hl2, hl3⟩ := lc_ex hcell
   obtain ⟨x, y, t, hcs⟩ : ∃ x y t, cellsR xs = (x, y) :: t := by
    have hm := mem_cells.2 hcell
    cases q : cellsR xs with
    | nil => rw [q] at hm; cases hm
    | cons c t => exact ⟨c.1, c.2, t, rfl⟩
   obtain ⟨hrg, hlc⟩ := first_lc ok hcs
   rw [hcs] at HCl
   have hv_x : x = ((lc xs % 9 : Nat) : Int) := by omega
   have hv_y : y = ((lc xs / 9 : Nat) : Int) := by omega
   have HIx := Lib.hid (fun W => iIndexN (lc xs) hl1 hv_x hv_y W)
   have HSpr := Lib.hid (fun W b (hb : Below w.heap.size w W) (hbb : w.heap.size ≤ b) (hH : Hw W b (row0 xs)) => HSp.out ht (hv xs f) (hv_step hf) W b (lc xs) hb hbb (row0 xs) x y hl1 (row0_hs hl1 hl2 (hv_zero xs f)) ((row0_st hl1).2 rfl) hH hv_x hv_y)
   have HFn := Lib.hid (fun (h : List Int) (s : Sx xs (xL L) (yL L) (hv xs f) (row0 xs) h (lc xs)) => show hgtR xs L h ∧ h.length = 81 from ⟨.inl ⟨hs, s.row ok hp1 ht hf hl1 hl2⟩, s.hs.len⟩)
   have H0 := Lib.hid (show (List.replicate 81 (-1000 : Int)).set (lc xs) 0 = row0 xs from rfl)
   have hcI : ((lc xs : Nat) : Int) < 81 := by omega
   have HL1 := Lib.hid hl1
   clear HSp hcell hl3 hl2 hs ht hone hf hp1 ok hcs hlc hrg hv_x hv_y hl1
   generalize row0 xs = h0 at HSpr HFn H0
   generalize lc xs = c at HIx HSpr HFn H0 hcI HL1
   go_upto_region 3 with fail
   have hba := below_alloc1 w2 (.cells #[.int .i64 (-1000)] 3)
   have hw2 : w.heap.size < w2.heap.size := (Array.getElem?_eq_some_iff.1 S2.2).1
   go_wp2_with fail
   refine (iRepeat (-1000) _ w2.heap.size 81 (by omega) (by omega) (by simp) (by simp)).mono ?_
   rintro e w3 ⟨b, rfl, hnum, hb3⟩
   have hH3 : Hw w3 b (List.replicate 81 (-1000)) := by
    have := rep_heap hnum
    rw [rowF_ints] at this
    exact this
   have hbb : w2.heap.size < b := by have := hnum.lt.1; simp at this; omega
   have S3 := S2.on (hba.trans (hb3.mono (by simp)))
   clear hnum hb3 hba S2 c0
   have c0 := S3.2.c0
   have hwb : w.heap.size < b := by omega
   go_wp2_with fail
   refine (HCl.out w3 S3.1).mono ?_
   rintro e w4 ⟨A2, cap2, rfl, hown, hb4⟩
   have S4 := S3.on hb4
   have hH4 := hH3.on hb4
   have hrc := rowC_own hown
   obtain ⟨bc, off, hA2, hcc⟩ := hrc
   obtain ⟨rfl, hbc⟩ := hA2 (by simp)
   obtain ⟨d0, d1⟩ := hcc 0 (x, y) rfl
   simp only [Nat.zero_mul, Nat.add_zero] at d0 d1
   have hlI : (0 : Int) < (((x, y) :: t).length : Int) := by rw [List.length_cons]; omega
   generalize ((x, y) :: t).length = m at hlI ⊢
   clear hown hb4 hcc hA2 S3 hH3 c0
   go_upto_region 6 with fail
   obtain ⟨k1, k2⟩ := cell_cor w4 x y _ rfl
   have S5 := S4.1.trans (k2.mono S4.1.size)
   have hH5 := hH4.on k2
   have hq5 : b < w4.heap.size := hH4.lt
   generalize (w4.alloc (.cells #[.int .i64 x, .int .i64 y] 79)).alloc (.cells #[.int .i64 x, .int .i64 y] 96) = w5 at k1 S5 hH5 ⊢
   have hqc : b ≠ w4.heap.size + 1 := by omega
   generalize w4.heap.size + 1 = qc at k1 hqc ⊢
   clear S4 hH4 k2 d0 d1
   have d0 := k1.c0
   have d1 := k1.c1
   go_wp2_with fail
   refine (HIx.out w5).mono ?_
   rintro e w6 ⟨rfl, hb6⟩
   have k1 := k1.on hb6
   have S6 := S5.trans (hb6.mono S5.size)
   have hH6 := hH5.on hb6
   clear hb6 S5 hH5 d0 d1
   have d0 := k1.c0
   have d1 := k1.c1
   have hz := hH6.cell (v := c) (x := -1000) (by rw [List.getElem?_replicate, if_pos HL1.out])
   have hzf := hH6.frozen c
   go_upto_region 7 with fail
   have hH7 := hH6.set (v := c) (by rw [List.length_replicate]; exact HL1.out) 0
   rw [H0.out] at hH7
   have k1 := k1.far (p := b) (i := c) (v := .int .i64 0) hqc.symm
   have S7 := S6.setCell (p := ⟨b, c, none⟩) (by show w.heap.size ≤ b; omega) (.int .i64 0)
   clear d0 d1 S6 hH6 hz hzf
   generalize w6.setCell ⟨b, c, none⟩ (.int .i64 0) = w7 at hH7 k1 S7 ⊢
   have d0 := k1.c0
   have d1 := k1.c1
   go_wp2_with fail
   refine (HSpr.out w7 b S7 (by omega) hH7).mono ?_
   rintro e w8 ⟨rfl, h', hs', hH8, ha⟩
   have HF := Lib.hid (HFn.out h' hs')
   have HO := Lib.hid (rep_own (base := w.heap.size) (b := b) (n := 81) (xs := ints h') (by omega) (by unfold Reg.ints; rw [List.length_map]; exact HF.out.2) (by omega) hH8)
   have HB := Lib.hid (S7.trans (ha.below (B := w.heap.size) (by omega) S7.size))
   clear d0 d1 k1 S7 hH7 hs' hH8 ha
   go_wp2
   go_ret
   exact ⟨h', some ⟨b, 0, none⟩, 81, 81, HF.out.1, HF.out.2, rfl, HO.out, HB.out⟩
end Go.Proofs.YtmajllgfmclcoaaGreatDoor.Cor

namespace Go.Proofs.YtmajllgfmclcoaaGreatDoor.Hgt
set_option linter.unusedVariables false
set_option linter.unusedSimpArgs false
set_option maxRecDepth 100000
open Go.RowKit Go.Proofs.YtmajllgfmclcoaaGreatDoor.Cell Go.Joins
open Go.Proofs.YtmajllgfmclcoaaGreatDoor.Reg hiding Yes

theorem sumH_no {hs : List Int} {k : Nat} (hk : k < hs.length) (h : hs[k] = -1000) : sumH hs (k + 1) = sumH hs k := by rw [sumH_step hk, if_pos h]
theorem sumH_yes {hs : List Int} {k : Nat} (hk : k < hs.length) (h : hs[k] ≠ -1000) : sumH hs (k + 1) = wrap64 (sumH hs k + hs[k]) := by rw [sumH_step hk, if_neg h]
set_option maxHeartbeats 1000000 in
theorem iSum (w : World) (A : Option Addr) (n cap B : Nat) (xs : List Int) (hx : xs.length = n) (hn : (n : Int) ≤ 9223372036854775807) (h : RowB w B A xs) (hB : B ≤ w.heap.size) :
  Calls Tryz.prog 33 #[.slice A n cap] w (Num (sumH xs n) w) := by
 obtain ⟨b, off, hA, hc⟩ := h
 have HA := Lib.hid hA
 have HC := Lib.hid hc
 have HL := Lib.hid hx
 have HS0 := Lib.hid (show sumH xs 0 = 0 from rfl)
 clear hA hc hx
 go_enter Tryz.func33, Tryz.ntmps33
 go_wp2_with fail
 go_loopw [3, 8] (fun s i wr => ∃ (k : Nat) (S : Int), k ≤ n ∧ s = .int .i64 S ∧ i = .int .i64 k ∧ Below w.heap.size w wr ∧ Hid (S = sumH xs k)) (fun _ i _ => n - (intOf i).toNat)
 case atStart => exact ⟨0, 0, Nat.zero_le _, rfl, rfl, Below.refl _ _, Lib.hid HS0.out.symm⟩
 case round =>
  clear HS0
  obtain ⟨k, S, hk, rfl, rfl, hb, HS⟩ := hrel
  by_cases hlt : k < n
  ·have hkL : k < xs.length := by rw [HL.out]; exact hlt
   obtain ⟨rfl, hbB⟩ := HA.out (by omega)
   have c0 := (hb.cell (p := ⟨b, off + k, none⟩) (by show b < _; omega)).trans (HC.out k xs[k] (List.getElem?_eq_getElem hkL))
   have HNo := Lib.hid (fun h => sumH_no hkL h)
   have HYe := Lib.hid (fun h => sumH_yes hkL h)
   generalize xs[k] = t at c0 HNo HYe
   have HB := Lib.hid hb
   clear hb
   by_cases ht : t = -1000
   ·subst ht
    have htb : ((-1000 : Int) != -1000) = false := rfl
    have HS2 := Lib.hid (show S = sumH xs (k + 1) by rw [HNo.out rfl]; exact HS.out)
    clear HNo HYe HS
    go_wp2
    go_roundw
    case rel => exact ⟨k + 1, S, by omega, rfl, by go_num, HB.out, HS2⟩
    case measure => (simp [intOf] <;> omega)
   ·have htb : (t != -1000) = true := by simpa using ht
    obtain ⟨S2, hS2⟩ : ∃ S2, IntKind.i64.wrap (S + t) = S2 := ⟨_, rfl⟩
    have hS3 : wrap64 (S + t) = S2 := by rw [← hS2, IntKind.wrap_i64]; unfold wrap64; omega
    have HS2 := Lib.hid (show S2 = sumH xs (k + 1) by rw [HYe.out ht, ← HS.out]; exact hS3.symm)
    clear HNo HYe HS ht
    go_wp2
    go_roundw
    case rel => exact ⟨k + 1, S2, by omega, rfl, by go_num, HB.out, HS2⟩
    case measure => (simp [intOf] <;> omega)
  ·obtain rfl : k = n := by omega
   have HB := Lib.hid hb
   have HE := Lib.hid HS.out
   clear HS hb
   go_wp2
   go_ret
   exact ⟨by rw [HE.out]; rfl, HB.out⟩
set_option maxHeartbeats 1000000 in
theorem sSum (w : World) (A : Option Addr) (n cap B : Nat) (xs : List Int) (hx : xs.length = n) (hn : (n : Int) ≤ 9223372036854775807) (h : RowB w B A xs) (hB : B ≤ w.heap.size) :
  Calls Tryz.prog 68 #[.slice A n cap] w (Num (sumH xs n) w) := by
 obtain ⟨b, off, hA, hc⟩ := h
 have HA := Lib.hid hA
 have HC := Lib.hid hc
 have HL := Lib.hid hx
 have HS0 := Lib.hid (show sumH xs 0 = 0 from rfl)
 clear hA hc hx
 go_enter Tryz.func68, Tryz.ntmps68
 go_wp2_with fail
 go_loopw [3, 4] (fun s i wr => ∃ (k : Nat) (S : Int), k ≤ n ∧ s = .int .i64 S ∧ i = .int .i64 k ∧ Below w.heap.size w wr ∧ Hid (S = sumH xs k)) (fun _ i _ => n - (intOf i).toNat)
 case atStart => exact ⟨0, 0, Nat.zero_le _, rfl, rfl, Below.refl _ _, Lib.hid HS0.out.symm⟩
 case round =>
  clear HS0
  obtain ⟨k, S, hk, rfl, rfl, hb, HS⟩ := hrel
  by_cases hlt : k < n
  ·have hkL : k < xs.length := by rw [HL.out]; exact hlt
   obtain ⟨rfl, hbB⟩ := HA.out (by omega)
   have c0 := (hb.cell (p := ⟨b, off + k, none⟩) (by show b < _; omega)).trans (HC.out k xs[k] (List.getElem?_eq_getElem hkL))
   have HNo := Lib.hid (fun h => sumH_no hkL h)
   have HYe := Lib.hid (fun h => sumH_yes hkL h)
   generalize xs[k] = t at c0 HNo HYe
   have HB := Lib.hid hb
   clear hb
   by_cases ht : t = -1000
   ·subst ht
    have htb : ((-1000 : Int) != -1000) = false := rfl
    have HS2 := Lib.hid (show S = sumH xs (k + 1) by rw [HNo.out rfl]; exact HS.out)
    clear HNo HYe HS
    go_wp2
    go_roundw
    case rel => exact ⟨k + 1, S, by omega, rfl, by go_num, HB.out, HS2⟩
    case measure => (simp [intOf] <;> omega)
   ·have htb : (t != -1000) = true := by simpa using ht
    obtain ⟨S2, hS2⟩ : ∃ S2, IntKind.i64.wrap (S + t) = S2 := ⟨_, rfl⟩
    have hS3 : wrap64 (S + t) = S2 := by rw [← hS2, IntKind.wrap_i64]; unfold wrap64; omega
    have HS2 := Lib.hid (show S2 = sumH xs (k + 1) by rw [HYe.out ht, ← HS.out]; exact hS3.symm)
    clear HNo HYe HS ht
    go_wp2
    go_roundw
    case rel => exact ⟨k + 1, S2, by omega, rfl, by go_num, HB.out, HS2⟩
    case measure => (simp [intOf] <;> omega)
  ·obtain rfl : k = n := by omega
   have HB := Lib.hid hb
   have HE := Lib.hid HS.out
   clear HS hb
   go_wp2
   go_ret
   exact ⟨by rw [HE.out]; rfl, HB.out⟩
end Go.Proofs.YtmajllgfmclcoaaGreatDoor.Hgt

namespace Go.Proofs.YtmajllgfmclcoaaGreatDoor.Jn
set_option linter.unusedVariables false
set_option linter.unusedSimpArgs false
set_option maxRecDepth 100000
open Go.RowKit Go.Joins Go.Deep
open Go.Proofs.YtmajllgfmclcoaaGreatDoor.Reg (ints intInfo RowB rowB_own own_below own_base)
open Go.Proofs.YtmajllgfmclcoaaGreatDoor.Cor (iHeightsOf)

set_option maxHeartbeats 400000 in
theorem iLesser (x y : Int) (w : World) : Calls Tryz.prog 29 #[.int .i64 x, .int .i64 y] w fun e w' => e = .returned (.int .i64 (min x y)) ∧ w = w' := by
 have H : ∀ v : Int, v = min x y → Ending.returned (.int .i64 v) = .returned (.int .i64 (min x y)) := fun v h => by rw [h]
 have HH := Lib.hid H
 clear H
 go_enter Tryz.func29, Tryz.ntmps29
 go_wp2
 all_goals
  go_ret
  refine ⟨HH.out _ ?_, rfl⟩
  omega

set_option maxHeartbeats 400000 in
theorem iGreater (x y : Int) (w : World) : Calls Tryz.prog 30 #[.int .i64 x, .int .i64 y] w fun e w' => e = .returned (.int .i64 (max x y)) ∧ w = w' := by
 have H : ∀ v : Int, v = max x y → Ending.returned (.int .i64 v) = .returned (.int .i64 (max x y)) := fun v h => by rw [h]
 have HH := Lib.hid H
 clear H
 go_enter Tryz.func30, Tryz.ntmps30
 go_wp2
 all_goals
  go_ret
  refine ⟨HH.out _ ?_, rfl⟩
  omega

end Go.Proofs.YtmajllgfmclcoaaGreatDoor.Jn
