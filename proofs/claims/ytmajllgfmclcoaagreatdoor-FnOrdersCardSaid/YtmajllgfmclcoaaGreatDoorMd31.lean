/- TilT, HgI, IEq, LSum in one text. -/
import Derived.Test.YtmajllgfmclcoaaGreatDoorMd30
import Derived.Test.YtmajllgfmclcoaaGreatDoorMd20
import Derived.Test.YtmajllgfmclcoaaGreatDoorMd29
import Derived.Test.YtmajllgfmclcoaaGreatDoorMd13
import Derived.Test.YtmajllgfmclcoaaGreatDoorMd18
import Derived.Test.YtmajllgfmclcoaaGreatDoorMd08
import Derived.Test.YtmajllgfmclcoaaGreatDoorMd28
import Derived.Test.YtmajllgfmclcoaaGreatDoorMd09
set_option linter.unusedVariables false
set_option linter.unusedSimpArgs false
set_option maxRecDepth 100000
namespace Go.Proofs.YtmajllgfmclcoaaGreatDoor.Til
open Go.RowKit Go.Proofs.YtmajllgfmclcoaaGreatDoor.Pure Go.Proofs.YtmajllgfmclcoaaGreatDoor.Cell Cels Dms Go.Joins
open Reg hiding add_none RC rc_start
set_option maxRecDepth 100000 in
set_option maxHeartbeats 1000000 in
theorem iIsTiling (w : World) (A : Option Addr) (n cap B : Nat) (xs : List Int) (hx : xs.length = n) (hn : (n : Int) ≤ 9223372036854775807) (h : RowB w B A xs) (hB : B ≤ w.heap.size)
  (A' : Option Addr) (n' cap' B' : Nat) (L : List Dm) (hL : L.length = n') (hn' : (n' : Int) ≤ 9223372036854775807) (hf : Fits L) (h' : RowM w B' A' L) (hB' : B' ≤ w.heap.size) (hcap : n' ≤ cap') :
  Calls Tryz.prog 80 #[.agg #[.slice A n cap], .slice A' n' cap'] w (Bol (tilB xs L) w) := by
 have HS := Lh (r1_start w (.slice A n cap))
 have HP := Lh (fun W (hb : Below w.heap.size w W) => iIsPartial W A n cap B xs hx hn (h.below hb hB) (by have := hb.size; omega) A' n' cap' B' L hL hn' hf (h'.below hb hB') (by have := hb.size; omega) hcap)
 have HU := Lh (fun W (hb : Below w.heap.size w W) => iUncoveredOf W A n cap B xs hx hn (h.below hb hB) (by have := hb.size; omega) A' n' cap' B' L hL hn' hf (h'.below hb hB') (by have := hb.size; omega))
 have HT := Lh (show tilB xs L = (partB xs L && decide ((unc L (cellsR xs)).length = 0)) from rfl)
 have hu : (unc L (cellsR xs)).length ≤ 64 := Nat.le_trans (unc_length _ _) (cellsR_length xs)
 generalize tilB xs L = t at HT ⊢
 generalize partB xs L = p at HP HT
 unfold NbPost at HU
 generalize unc L (cellsR xs) = U at HU HT hu
 generalize hm : U.length = m at HU HT hu
 clear hx hn h hB hL hn' hf h' hB' hcap hm
 go_enter Tryz.func80, Tryz.ntmps80
 go_wp2_with fail
 have T0 := HS.out
 refine (HP.out _ T0.1).mono ?_
 rintro e w1 ⟨rfl, hb1⟩
 have T1 := T0.on hb1
 have c0 := T1.2.c0
 clear T0 HS hb1 HP
 cases p with
 | false =>
  go_wp2
  go_ret
  exact mkBol (by rw [HT.out]; rfl) T1.1
 | true =>
  go_wp2_with fail
  refine (HU.out _ T1.1).mono ?_
  rintro e w2 ⟨A2, cap2, rfl, _, hb2⟩
  have hb := T1.1.trans (hb2.mono T1.1.size)
  clear T1 c0 hb2 HU
  by_cases h0 : m = 0
  ·have HE := Lh (show t = true by rw [HT.out, decide_eq_true h0]; rfl)
   have h1 : ((m : Nat) : Int) = 0 := by omega
   go_wp2
   go_ret
   exact mkBol (by simp [HE.out] <;> omega) hb
  ·have HE := Lh (show t = false by rw [HT.out, decide_eq_false h0]; rfl)
   have h1 : ¬ ((m : Nat) : Int) = 0 := by omega
   go_wp2
   go_ret
   exact mkBol (by simp [HE.out] <;> omega) hb
set_option maxRecDepth 100000 in
set_option maxHeartbeats 1000000 in
theorem sIsTiling (w : World) (A : Option Addr) (n cap B : Nat) (xs : List Int) (hx : xs.length = n) (hn : (n : Int) ≤ 9223372036854775807) (h : RowB w B A xs) (hB : B ≤ w.heap.size)
  (A' : Option Addr) (n' cap' B' : Nat) (L : List Dm) (hL : L.length = n') (hn' : (n' : Int) ≤ 9223372036854775807) (h' : RowM w B' A' L) (hB' : B' ≤ w.heap.size) :
  Calls Tryz.prog 14 #[.agg #[.slice A n cap], .slice A' n' cap'] w (Bol (tilB xs L) w) := by
 have HS := Lh (r1_start w (.slice A n cap))
 have HP := Lh (fun W (hb : Below w.heap.size w W) => sIsPartial W A n cap B xs hx hn (h.below hb hB) (by have := hb.size; omega) A' n' cap' B' L hL hn' (h'.below hb hB') (by have := hb.size; omega))
 have HC := Lh (fun W (hb : Below w.heap.size w W) => sCountCells W A n cap B xs hx hn (h.below hb hB) (by have := hb.size; omega))
 have HT := Lh (fun hp => hL ▸ tilB_count (xs := xs) (L := L) hp)
 have HF := Lh (show partB xs L = false → tilB xs L = false from fun hp => by unfold tilB; rw [hp]; rfl)
 have HN := Lh (fun hp => hL ▸ part_length (xs := xs) (L := L) hp)
 have hc := cellsR_length xs
 generalize tilB xs L = t at HT HF ⊢
 generalize partB xs L = p at HP HT HF HN
 unfold countR at HC
 generalize (cellsR xs).length = m at HC HT hc
 clear hx hn h hB hL hn' h' hB'
 go_enter Tryz.func14, Tryz.ntmps14
 go_wp2_with fail
 have T0 := HS.out
 refine (HP.out _ T0.1).mono ?_
 rintro e w1 ⟨rfl, hb1⟩
 have T1 := T0.on hb1
 have c0 := T1.2.c0
 clear T0 HS hb1 HP
 cases p with
 | false =>
  have HE := Lh (HF.out rfl)
  go_wp2
  go_ret
  exact mkBol (by rw [HE.out]) T1.1
 | true =>
  have hn2 : 2 * n' ≤ 64 := HN.out rfl
  have HT2 := Lh (HT.out (by first | rfl | trivial))
  clear HF HN
  go_wp2_with fail
  refine (HC.out _ T1.1).mono ?_
  rintro e w2 ⟨rfl, hb2⟩
  have hb := T1.1.trans (hb2.mono T1.1.size)
  clear T1 c0 hb2 HC
  by_cases h0 : 2 * n' = m
  ·have HE := Lh (show t = true by rw [HT2.out, decide_eq_true h0])
   have h1 : 2 * (n' : Int) = ((m : Nat) : Int) := by omega
   go_wp2
   go_ret
   exact mkBol (by simp [HE.out] <;> omega) hb
  ·have HE := Lh (show t = false by rw [HT2.out, decide_eq_false h0])
   have h1 : ¬ 2 * (n' : Int) = ((m : Nat) : Int) := by omega
   go_wp2
   go_ret
   exact mkBol (by simp [HE.out] <;> omega) hb
end Go.Proofs.YtmajllgfmclcoaaGreatDoor.Til
namespace Go.Proofs.YtmajllgfmclcoaaGreatDoor.Cor
open Go.RowKit Go.Proofs.YtmajllgfmclcoaaGreatDoor.Pure Dms Til Hgt Go.Joins
open Cels (rowC RowC rowC_own rowC_at)
open Reg (ints RowIn rowIn_new Apart apart_of_below RowB)
open Flo (simB iIsSimple)
open Rpt (iRepeat rep_heap rep_own)
theorem rowF_ints (z : Int) (n : Nat) : Wg.rowF n (fun _ => z) = ints (List.replicate n z) := by
 unfold Wg.rowF Reg.ints
 simp [List.map_const']
theorem cell_cor (w : World) (x y : Int) (W : World) (e : W = (w.alloc (.cells #[.int .i64 x, .int .i64 y] 79)).alloc (.cells #[.int .i64 x, .int .i64 y] 96)) : AtC W (w.heap.size + 1) x y ∧ Below w.heap.size w W := by
 subst e
 refine ⟨?_, below_alloc2 w _ _⟩
 have k := AtC.new (w.alloc (.cells #[.int .i64 x, .int .i64 y] 79)) x y
 simpa using k
set_option maxHeartbeats 4000000 in
theorem iHeightsOf (w : World) (A : Option Addr) (n cap B : Nat) (xs : List Int) (hx : xs.length = n) (hn : (n : Int) ≤ 9223372036854775807) (h : RowB w B A xs) (hB : B ≤ w.heap.size)
  (A' : Option Addr) (n' cap' B' : Nat) (L : List Dm) (hL : L.length = n') (hn' : (n' : Int) ≤ 9223372036854775807) (hf : Fits L) (h' : RowM w B' A' L) (hB' : B' ≤ w.heap.size) (hcap : n' ≤ cap') :
  Calls Tryz.prog 53 #[.agg #[.slice A n cap], .slice A' n' cap'] w (HgtP xs L w) := by
 have HS := Lh (r1_start w (.slice A n cap))
 have HSim := Lh (fun W (hb : Below w.heap.size w W) => iIsSimple W A n cap B xs hx hn (h.below hb hB) (by have := hb.size; omega))
 have HTil := Lh (fun W (hb : Below w.heap.size w W) => iIsTiling W A n cap B xs hx hn (h.below hb hB) (by have := hb.size; omega) A' n' cap' B' L hL hn' hf (h'.below hb hB') (by have := hb.size; omega) hcap)
 have HCl := Lh (fun W (hb : Below w.heap.size w W) => Reg.iCellsOf W A n cap B xs hx hn (h.below hb hB) (by have := hb.size; omega))
 have HSp := Lh (fun (ht : tilB xs L = true) (F : Nat → Int) hF W b v (hb : Below w.heap.size w W) (hbb : w.heap.size ≤ b) (k : List Int) x y hv hs hst hH ex ey => iSpread A' n' cap' xs L hL hn' hf ht F hF (unH k) W b v k x y NR hv hs hst hH ((h'.below hb hB').mono (by omega)) ex ey)
 clear hx hn h hB hL hn' h' hB' hf hcap
 go_enter Tryz.func53, Tryz.ntmps53
 go_wp2_with fail
 refine (HSim.out _ HS.out.1).mono ?_
 rintro e w1 ⟨rfl, hb1⟩
 have S1 := HS.out.on hb1
 have c0 := S1.2.c0
 clear HS hb1 HSim
 have HEm := Lh (fun (hno : ¬ (simB xs = true ∧ tilB xs L = true)) W (hb : Below w.heap.size w W) => show HgtP xs L w (.returned (.slice none 0 0)) W from
  ⟨[], none, 0, 0, .inr ⟨hno, rfl⟩, rfl, rfl, ⟨rfl, .inl ⟨rfl, rfl⟩⟩, hb⟩)
 cases hs : simB xs with
 | false =>
  have HE := HEm.out (by rw [hs]; simp)
  clear HEm hs
  go_wp2
  go_ret
  exact HE _ S1.1
 | true =>
  go_wp2_with fail
  refine (HTil.out _ S1.1).mono ?_
  rintro e w2 ⟨rfl, hb2⟩
  have S2 := S1.on hb2
  have c0 := S2.2.c0
  clear S1 hb2 HTil
  cases ht : tilB xs L with
  | false =>
   have HE := HEm.out (by rw [ht]; simp)
   clear HEm hs ht
   go_wp2
   go_ret
   exact HE _ S2.1
  | true =>
   clear HEm
   obtain ⟨ok, hp1, hone⟩ := sim_parts hs
   obtain ⟨f, hf⟩ := hts_ex hs ht
   obtain ⟨cx0, cy0, hcell⟩ := cell_ex ok hp1
   obtain ⟨hl1, hl2, hl3⟩ := lc_ex hcell
   obtain ⟨x, y, t, hcs⟩ : ∃ x y t, cellsR xs = (x, y) :: t := by
    have hm := mem_cells.2 hcell
    cases q : cellsR xs with
    | nil => rw [q] at hm; cases hm
    | cons c t => exact ⟨c.1, c.2, t, rfl⟩
   obtain ⟨hrg, hlc⟩ := first_lc ok hcs
   rw [hcs] at HCl
   have hv_x : x = ((lc xs % 9 : Nat) : Int) := by omega
   have hv_y : y = ((lc xs / 9 : Nat) : Int) := by omega
   have HIx := Lh (fun W => iIndexN (lc xs) hl1 hv_x hv_y W)
   have HSpr := Lh (fun W b (hb : Below w.heap.size w W) (hbb : w.heap.size ≤ b) (hH : Hw W b (row0 xs)) => HSp.out ht (hv xs f) (hv_step hf) W b (lc xs) hb hbb (row0 xs) x y hl1 (row0_hs hl1 hl2 (hv_zero xs f)) ((row0_st hl1).2 rfl) hH hv_x hv_y)
   have HFn := Lh (fun (h : List Int) (s : Sx xs (xL L) (yL L) (hv xs f) (row0 xs) h (lc xs)) => show hgtR xs L h ∧ h.length = 81 from ⟨.inl ⟨hs, s.row ok hp1 ht hf hl1 hl2⟩, s.hs.len⟩)
   have H0 := Lh (show (List.replicate 81 (-1000 : Int)).set (lc xs) 0 = row0 xs from rfl)
   have hcI : ((lc xs : Nat) : Int) < 81 := by omega
   have HL1 := Lh hl1
   clear HSp hcell hl3 hl2 hs ht hone hf hp1 ok hcs hlc hrg hv_x hv_y hl1
   generalize row0 xs = h0 at HSpr HFn H0
   generalize lc xs = c at HIx HSpr HFn H0 hcI HL1
   go_upto_region 3 with fail
   have hba := below_alloc1 w2 (.cells #[.int .i64 (-1000)] 3)
   have hw2 : w.heap.size < w2.heap.size := (Array.getElem?_eq_some_iff.1 S2.2).1
   go_wp2_with fail
   refine (iRepeat (-1000) _ w2.heap.size 81 (by omega) (by omega) (by simp) (by simp)).mono ?_
   rintro e w3 ⟨b, rfl, hnum, hb3⟩
   have hH3 : Hw w3 b (List.replicate 81 (-1000)) := by
    have := rep_heap hnum
    rw [rowF_ints] at this
    exact this
   have hbb : w2.heap.size < b := by have := hnum.lt.1; simp at this; omega
   have S3 := S2.on (hba.trans (hb3.mono (by simp)))
   clear hnum hb3 hba S2 c0
   have c0 := S3.2.c0
   have hwb : w.heap.size < b := by omega
   go_wp2_with fail
   refine (HCl.out w3 S3.1).mono ?_
   rintro e w4 ⟨A2, cap2, rfl, hown, hb4⟩
   have S4 := S3.on hb4
   have hH4 := hH3.on hb4
   have hrc := rowC_own hown
   obtain ⟨bc, off, hA2, hcc⟩ := hrc
   obtain ⟨rfl, hbc⟩ := hA2 (by simp)
   obtain ⟨d0, d1⟩ := hcc 0 (x, y) rfl
   simp only [Nat.zero_mul, Nat.add_zero] at d0 d1
   have hlI : (0 : Int) < (((x, y) :: t).length : Int) := by rw [List.length_cons]; omega
   generalize ((x, y) :: t).length = m at hlI ⊢
   clear hown hb4 hcc hA2 S3 hH3 c0
   go_upto_region 6 with fail
   obtain ⟨k1, k2⟩ := cell_cor w4 x y _ rfl
   have S5 := S4.1.trans (k2.mono S4.1.size)
   have hH5 := hH4.on k2
   have hq5 : b < w4.heap.size := hH4.lt
   generalize (w4.alloc (.cells #[.int .i64 x, .int .i64 y] 79)).alloc (.cells #[.int .i64 x, .int .i64 y] 96) = w5 at k1 S5 hH5 ⊢
   have hqc : b ≠ w4.heap.size + 1 := by omega
   generalize w4.heap.size + 1 = qc at k1 hqc ⊢
   clear S4 hH4 k2 d0 d1
   have d0 := k1.c0
   have d1 := k1.c1
   go_wp2_with fail
   refine (HIx.out w5).mono ?_
   rintro e w6 ⟨rfl, hb6⟩
   have k1 := k1.on hb6
   have S6 := S5.trans (hb6.mono S5.size)
   have hH6 := hH5.on hb6
   clear hb6 S5 hH5 d0 d1
   have d0 := k1.c0
   have d1 := k1.c1
   have hz := hH6.cell (v := c) (x := -1000) (by rw [List.getElem?_replicate, if_pos HL1.out])
   have hzf := hH6.frozen c
   go_upto_region 7 with fail
   have hH7 := hH6.set (v := c) (by rw [List.length_replicate]; exact HL1.out) 0
   rw [H0.out] at hH7
   have k1 := k1.far (p := b) (i := c) (v := .int .i64 0) hqc.symm
   have S7 := S6.setCell (p := ⟨b, c, none⟩) (by show w.heap.size ≤ b; omega) (.int .i64 0)
   clear d0 d1 S6 hH6 hz hzf
   generalize w6.setCell ⟨b, c, none⟩ (.int .i64 0) = w7 at hH7 k1 S7 ⊢
   have d0 := k1.c0
   have d1 := k1.c1
   go_wp2_with fail
   refine (HSpr.out w7 b S7 (by omega) hH7).mono ?_
   rintro e w8 ⟨rfl, h', hs', hH8, ha⟩
   have HF := Lh (HFn.out h' hs')
   have HO := Lh (rep_own (base := w.heap.size) (b := b) (n := 81) (xs := ints h') (by omega) (by unfold Reg.ints; rw [List.length_map]; exact HF.out.2) (by omega) hH8)
   have HB := Lh (S7.trans (ha.below (B := w.heap.size) (by omega) S7.size))
   clear d0 d1 k1 S7 hH7 hs' hH8 ha
   go_wp2
   go_ret
   exact ⟨h', some ⟨b, 0, none⟩, 81, 81, HF.out.1, HF.out.2, rfl, HO.out, HB.out⟩
end Go.Proofs.YtmajllgfmclcoaaGreatDoor.Cor
namespace Go.Proofs.YtmajllgfmclcoaaGreatDoor.Cor
open Go.RowKit Hgt Go.Joins
open Reg (ints RowB rowB_own own_below own_base)
set_option maxHeartbeats 1000000 in
theorem iEqualI (w : World) (A A' : Option Addr) (n m cap cap' : Nat) (B B' : Nat) (xs ys : List Int) (hx : xs.length = n) (hy : ys.length = m) (hl : (n : Int) ≤ 9223372036854775807) (h1 : RowB w B A xs) (h2 : RowB w B' A' ys) :
  Calls Tryz.prog 41 #[.slice A n cap, .slice A' m cap'] w fun e w' => e = .returned (.bool (decide (xs = ys))) ∧ ∃ q, w' = w.drewN q := by
 obtain ⟨b, off, hA, hc⟩ := h1
 obtain ⟨b', off', hA', hc'⟩ := h2
 by_cases hnm : n = m
 rotate_left
 ·have hne : decide (xs = ys) = false := decide_eq_false (fun e => hnm (by rw [← hx, ← hy, e]))
  rw [hne]
  have hnn : (((n : Nat) : Int) != ((m : Nat) : Int)) = true := by simp; omega
  clear hA hA' hc hc' hx hy hne
  go_enter Tryz.func41, Tryz.ntmps41
  go_wp2
  go_ret
  exact ⟨rfl, 0, rfl⟩
 subst hnm
 have H1 := Lh hA
 have H2 := Lh hA'
 have H3 := Lh hc
 have H4 := Lh hc'
 have HX := Lh hx
 have HY := Lh hy
 have HT : Hid (xs = ys → decide (xs = ys) = true) := Lh (fun h => decide_eq_true h)
 have HF : Hid (¬ xs = ys → decide (xs = ys) = false) := Lh (fun h => decide_eq_false h)
 generalize decide (xs = ys) = r at HT HF ⊢
 clear hA hA' hc hc' hx hy
 have hnn : (((n : Nat) : Int) != ((n : Nat) : Int)) = false := by simp
 go_enter Tryz.func41, Tryz.ntmps41
 go_wp2_with fail
 go_loopw [5, 13] (fun _ i wr => ∃ k : Nat, k ≤ n ∧ i = .int .i64 k ∧ Hid (xs.take k = ys.take k) ∧ ∃ q, wr = w.drewN q) (fun _ i _ => n - (intOf i).toNat)
 case atStart => exact ⟨0, Nat.zero_le _, rfl, Lh rfl, 0, rfl⟩
 case round =>
  obtain ⟨k, hk, rfl, hs, q, rfl⟩ := hrel
  by_cases hlt : k < n
  ·have hkx : k < xs.length := by have := HX.out; omega
   have hky : k < ys.length := by have := HY.out; omega
   obtain ⟨rfl, _⟩ := H1.out (by omega)
   obtain ⟨rfl, _⟩ := H2.out (by omega)
   have hx := H3.out k xs[k] (List.getElem?_eq_getElem hkx)
   have hy := H4.out k ys[k] (List.getElem?_eq_getElem hky)
   have HS := Lh (fun e => same_take hs.out hkx hky e)
   have HN := Lh (show xs[k] ≠ ys[k] → ¬ xs = ys from fun h e => h (by subst e; rfl))
   clear hs
   generalize xs[k] = t at hx HS HN
   generalize ys[k] = u at hy HS HN
   by_cases hq : t = u
   ·subst hq
    have hq : (t != t) = false := by simp
    go_wp2_with fail
    go_quiet (fail)
    go_wp2
    go_roundw
    case rel => exact ⟨k + 1, by omega, by go_num, Lh (HS.out trivial), _, by first | rfl | rw [World.drewN_drewN]⟩
    case measure => (simp [intOf] <;> omega)
   ·have hr := HF.out (HN.out hq)
    subst hr
    have hq' : (t != u) = true := by simpa using hq
    go_wp2_with fail
    go_quiet (fail)
    go_wp2
    go_ret
    exact ⟨rfl, _, by first | rfl | rw [World.drewN_drewN]⟩
  ·have hr := HT.out (by
    have e := hs.out
    rw [List.take_of_length_le (by have := HX.out; omega), List.take_of_length_le (by have := HY.out; omega)] at e
    exact e)
   subst hr
   clear hs
   go_wp2
   go_ret
   exact ⟨rfl, q, rfl⟩
end Go.Proofs.YtmajllgfmclcoaaGreatDoor.Cor
namespace Go.Proofs.YtmajllgfmclcoaaGreatDoor.Hgt
open Go.RowKit Go.Proofs.YtmajllgfmclcoaaGreatDoor.Cell Go.Joins
open Reg
theorem sumH_no {hs : List Int} {k : Nat} (hk : k < hs.length) (h : hs[k] = -1000) : sumH hs (k + 1) = sumH hs k := by rw [sumH_step hk, if_pos h]
theorem sumH_yes {hs : List Int} {k : Nat} (hk : k < hs.length) (h : hs[k] ≠ -1000) : sumH hs (k + 1) = wrap64 (sumH hs k + hs[k]) := by rw [sumH_step hk, if_neg h]
set_option maxHeartbeats 1000000 in
theorem iSum (w : World) (A : Option Addr) (n cap B : Nat) (xs : List Int) (hx : xs.length = n) (hn : (n : Int) ≤ 9223372036854775807) (h : RowB w B A xs) (hB : B ≤ w.heap.size) :
  Calls Tryz.prog 33 #[.slice A n cap] w (Num (sumH xs n) w) := by
 obtain ⟨b, off, hA, hc⟩ := h
 have HA := Lh hA
 have HC := Lh hc
 have HL := Lh hx
 have HS0 := Lh (show sumH xs 0 = 0 from rfl)
 clear hA hc hx
 go_enter Tryz.func33, Tryz.ntmps33
 go_wp2_with fail
 go_loopw [3, 8] (fun s i wr => ∃ (k : Nat) (S : Int), k ≤ n ∧ s = .int .i64 S ∧ i = .int .i64 k ∧ Below w.heap.size w wr ∧ Hid (S = sumH xs k)) (fun _ i _ => n - (intOf i).toNat)
 case atStart => exact ⟨0, 0, Nat.zero_le _, rfl, rfl, Below.refl _ _, Lh HS0.out.symm⟩
 case round =>
  clear HS0
  obtain ⟨k, S, hk, rfl, rfl, hb, HS⟩ := hrel
  by_cases hlt : k < n
  ·have hkL : k < xs.length := by rw [HL.out]; exact hlt
   obtain ⟨rfl, hbB⟩ := HA.out (by omega)
   have c0 := (hb.cell (p := ⟨b, off + k, none⟩) (by show b < _; omega)).trans (HC.out k xs[k] (List.getElem?_eq_getElem hkL))
   have HNo := Lh (fun h => sumH_no hkL h)
   have HYe := Lh (fun h => sumH_yes hkL h)
   generalize xs[k] = t at c0 HNo HYe
   have HB := Lh hb
   clear hb
   by_cases ht : t = -1000
   ·subst ht
    have htb : ((-1000 : Int) != -1000) = false := rfl
    have HS2 := Lh (show S = sumH xs (k + 1) by rw [HNo.out rfl]; exact HS.out)
    clear HNo HYe HS
    go_wp2
    go_roundw
    case rel => exact ⟨k + 1, S, by omega, rfl, by go_num, HB.out, HS2⟩
    case measure => (simp [intOf] <;> omega)
   ·have htb : (t != -1000) = true := by simpa using ht
    obtain ⟨S2, hS2⟩ : ∃ S2, IntKind.i64.wrap (S + t) = S2 := ⟨_, rfl⟩
    have hS3 : wrap64 (S + t) = S2 := by rw [← hS2, IntKind.wrap_i64]; unfold wrap64; omega
    have HS2 := Lh (show S2 = sumH xs (k + 1) by rw [HYe.out ht, ← HS.out]; exact hS3.symm)
    clear HNo HYe HS ht
    go_wp2
    go_roundw
    case rel => exact ⟨k + 1, S2, by omega, rfl, by go_num, HB.out, HS2⟩
    case measure => (simp [intOf] <;> omega)
  ·obtain rfl : k = n := by omega
   have HB := Lh hb
   have HE := Lh HS.out
   clear HS hb
   go_wp2
   go_ret
   exact ⟨by rw [HE.out]; rfl, HB.out⟩
end Go.Proofs.YtmajllgfmclcoaaGreatDoor.Hgt
