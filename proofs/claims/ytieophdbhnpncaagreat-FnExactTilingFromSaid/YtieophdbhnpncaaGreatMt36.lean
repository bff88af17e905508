/- RegCn, TilT, HgI, TfI in one text. -/
import Derived.Test.YtieophdbhnpncaaGreatMt17
import Derived.Test.YtieophdbhnpncaaGreatMt35
import Derived.Test.YtieophdbhnpncaaGreatMt27
import Derived.Test.YtieophdbhnpncaaGreatMt33
import Derived.Test.YtieophdbhnpncaaGreatMt34
import Derived.Test.YtieophdbhnpncaaGreatMt31

/- CountCells: the program's function and the model's. -/
namespace Go.Proofs.YtieophdbhnpncaaGreat.Reg
set_option linter.unusedVariables false
open Go.RowKit Go.Proofs.YtieophdbhnpncaaGreat.Base Go.Proofs.YtieophdbhnpncaaGreat.Pure Go.Proofs.YtieophdbhnpncaaGreat.Cell Go.Proofs.YtieophdbhnpncaaGreat.Cels Go.Joins

/-- how many cells a region has. -/
def countR (xs : List Int) : Int := ((cellsR xs).length : Int)

set_option maxHeartbeats 400000 in
theorem sCountCells (w : World) (A : Option Addr) (n cap B : Nat) (xs : List Int) (hx : xs.length = n) (hn : (n : Int) ≤ 9223372036854775807) (h : RowB w B A xs) (hB : B ≤ w.heap.size) :
    Calls Tryz.prog 78 #[.agg #[.slice A n cap]] w (Num (countR xs) w) := by
  have HC := Lib.hid (fun W (hb : Below w.heap.size w W) => sCellsOf W A n cap B xs hx hn (h.below hb hB) (by have := hb.size; omega))
  have HB := Lib.hid (fun (o1 : Obj) => below_alloc1 w o1)
  have HE := Lib.hid (show countR xs = ((cellsR xs).length : Int) from rfl)
  clear hx hn h
  generalize cellsR xs = L at HC HE
  go_enter Tryz.func78, Tryz.ntmps78
  go_wp2_with fail
  refine (HC.out _ (HB.out _)).mono ?_
  rintro e w1 ⟨A1, cap1, rfl, _, hb1⟩
  have hb := (HB.out (.cells #[.slice A n cap] 26)).trans (hb1.mono (by simp))
  clear hb1
  go_wp2
  go_ret
  exact mkNum HE.out.symm hb
end Go.Proofs.YtieophdbhnpncaaGreat.Reg

/- IsTiling: the program's function and the model's say the same of every region and every list. -/
namespace Go.Proofs.YtieophdbhnpncaaGreat.Til
set_option linter.unusedVariables false
set_option linter.unusedSimpArgs false
open Go.RowKit Go.Proofs.YtieophdbhnpncaaGreat.Base Go.Proofs.YtieophdbhnpncaaGreat.Pure Go.Proofs.YtieophdbhnpncaaGreat.Cell Go.Proofs.YtieophdbhnpncaaGreat.CellF Go.Proofs.YtieophdbhnpncaaGreat.Cels Go.Proofs.YtieophdbhnpncaaGreat.Dom Go.Proofs.YtieophdbhnpncaaGreat.Dms Go.Joins
open Go.Proofs.YtieophdbhnpncaaGreat.Reg hiding Yes add_none RC rc_start

set_option maxRecDepth 100000 in
set_option maxHeartbeats 1000000 in
theorem iIsTiling (w : World) (A : Option Addr) (n cap B : Nat) (xs : List Int) (hx : xs.length = n) (hn : (n : Int) ≤ 9223372036854775807) (h : RowB w B A xs) (hB : B ≤ w.heap.size)
    (A' : Option Addr) (n' cap' B' : Nat) (L : List Dm) (hL : L.length = n') (hn' : (n' : Int) ≤ 9223372036854775807) (hf : Fits L) (h' : RowM w B' A' L) (hB' : B' ≤ w.heap.size) (hcap : n' ≤ cap') :
    Calls Tryz.prog 30 #[.agg #[.slice A n cap], .slice A' n' cap'] w (Bol (tilB xs L) w) := by
  have HS := Lib.hid (r1_start w (.slice A n cap))
  have HP := Lib.hid (fun W (hb : Below w.heap.size w W) => iIsPartial W A n cap B xs hx hn (h.below hb hB) (by have := hb.size; omega) A' n' cap' B' L hL hn' hf (h'.below hb hB') (by have := hb.size; omega) hcap)
  have HU := Lib.hid (fun W (hb : Below w.heap.size w W) => iUncoveredOf W A n cap B xs hx hn (h.below hb hB) (by have := hb.size; omega) A' n' cap' B' L hL hn' hf (h'.below hb hB') (by have := hb.size; omega))
  have HT := Lib.hid (show tilB xs L = (partB xs L && decide ((unc L (cellsR xs)).length = 0)) from rfl)
  have hu : (unc L (cellsR xs)).length ≤ 64 := Nat.le_trans (unc_length _ _) (cellsR_length xs)
  generalize tilB xs L = t at HT ⊢
  generalize partB xs L = p at HP HT
  unfold NbPost at HU
  generalize unc L (cellsR xs) = U at HU HT hu
  generalize hm : U.length = m at HU HT hu
  clear hx hn h hB hL hn' hf h' hB' hcap hm
  go_enter Tryz.func30, Tryz.ntmps30
  go_wp2_with fail
  have T0 := HS.out
  refine (HP.out _ T0.1).mono ?_
  rintro e w1 ⟨rfl, hb1⟩
  have T1 := T0.on hb1
  have c0 := T1.2.c0
  clear T0 HS hb1 HP
  cases p with
  | false =>
    go_wp2
    go_ret
    exact mkBol (by rw [HT.out]; rfl) T1.1
  | true =>
    go_wp2_with fail
    refine (HU.out _ T1.1).mono ?_
    rintro e w2 ⟨A2, cap2, rfl, _, hb2⟩
    have hb := T1.1.trans (hb2.mono T1.1.size)
    clear T1 c0 hb2 HU
    by_cases h0 : m = 0
    · have HE := Lib.hid (show t = true by rw [HT.out, decide_eq_true h0]; rfl)
      have h1 : ((m : Nat) : Int) = 0 := by omega
      go_wp2
      go_ret
      exact mkBol (by simp [HE.out] <;> omega) hb
    · have HE := Lib.hid (show t = false by rw [HT.out, decide_eq_false h0]; rfl)
      have h1 : ¬ ((m : Nat) : Int) = 0 := by omega
      go_wp2
      go_ret
      exact mkBol (by simp [HE.out] <;> omega) hb

set_option maxRecDepth 100000 in
set_option maxHeartbeats 1000000 in
theorem sIsTiling (w : World) (A : Option Addr) (n cap B : Nat) (xs : List Int) (hx : xs.length = n) (hn : (n : Int) ≤ 9223372036854775807) (h : RowB w B A xs) (hB : B ≤ w.heap.size)
    (A' : Option Addr) (n' cap' B' : Nat) (L : List Dm) (hL : L.length = n') (hn' : (n' : Int) ≤ 9223372036854775807) (h' : RowM w B' A' L) (hB' : B' ≤ w.heap.size) :
    Calls Tryz.prog 77 #[.agg #[.slice A n cap], .slice A' n' cap'] w (Bol (tilB xs L) w) := by
  have HS := Lib.hid (r1_start w (.slice A n cap))
  have HP := Lib.hid (fun W (hb : Below w.heap.size w W) => sIsPartial W A n cap B xs hx hn (h.below hb hB) (by have := hb.size; omega) A' n' cap' B' L hL hn' (h'.below hb hB') (by have := hb.size; omega))
  have HC := Lib.hid (fun W (hb : Below w.heap.size w W) => sCountCells W A n cap B xs hx hn (h.below hb hB) (by have := hb.size; omega))
  have HT := Lib.hid (fun hp => hL ▸ tilB_count (xs := xs) (L := L) hp)
  have HF := Lib.hid (show partB xs L = false → tilB xs L = false from fun hp => by unfold tilB; rw [hp]; rfl)
  have HN := Lib.hid (fun hp => hL ▸ part_length (xs := xs) (L := L) hp)
  have hc := cellsR_length xs
  generalize tilB xs L = t at HT HF ⊢
  generalize partB xs L = p at HP HT HF HN
  unfold countR at HC
  generalize (cellsR xs).length = m at HC HT hc
  clear hx hn h hB hL hn' h' hB'
  go_enter Tryz.func77, Tryz.ntmps77
  go_wp2_with fail
  have T0 := HS.out
  refine (HP.out _ T0.1).mono ?_
  rintro e w1 ⟨rfl, hb1⟩
  have T1 := T0.on hb1
  have c0 := T1.2.c0
  clear T0 HS hb1 HP
  cases p with
  | false =>
    have HE := Lib.hid (HF.out rfl)
    go_wp2
    go_ret
    exact mkBol (by rw [HE.out]) T1.1
  | true =>
    have hn2 : 2 * n' ≤ 64 := HN.out rfl
    have HT2 := Lib.hid (HT.out (by first | rfl | trivial))
    clear HF HN
    go_wp2_with fail
    refine (HC.out _ T1.1).mono ?_
    rintro e w2 ⟨rfl, hb2⟩
    have hb := T1.1.trans (hb2.mono T1.1.size)
    clear T1 c0 hb2 HC
    by_cases h0 : 2 * n' = m
    · have HE := Lib.hid (show t = true by rw [HT2.out, decide_eq_true h0])
      have h1 : 2 * (n' : Int) = ((m : Nat) : Int) := by omega
      go_wp2
      go_ret
      exact mkBol (by simp [HE.out] <;> omega) hb
    · have HE := Lib.hid (show t = false by rw [HT2.out, decide_eq_false h0])
      have h1 : ¬ 2 * (n' : Int) = ((m : Nat) : Int) := by omega
      go_wp2
      go_ret
      exact mkBol (by simp [HE.out] <;> omega) hb
end Go.Proofs.YtieophdbhnpncaaGreat.Til

/- HeightsOf, the program's. -/
namespace Go.Proofs.YtieophdbhnpncaaGreat.Cor
set_option linter.unusedVariables false
set_option linter.unusedSimpArgs false
set_option maxRecDepth 100000
open Go.RowKit Go.Proofs.YtieophdbhnpncaaGreat.Base Go.Proofs.YtieophdbhnpncaaGreat.Pure Go.Proofs.YtieophdbhnpncaaGreat.Cell Go.Proofs.YtieophdbhnpncaaGreat.Dom Go.Proofs.YtieophdbhnpncaaGreat.Dms Go.Proofs.YtieophdbhnpncaaGreat.Til Go.Proofs.YtieophdbhnpncaaGreat.Hgt Go.Joins
open Go.Proofs.YtieophdbhnpncaaGreat.Cels (rowC RowC rowC_own rowC_at)
open Go.Proofs.YtieophdbhnpncaaGreat.Reg (ints RowIn rowIn_new Apart apart_of_below RowB)
open Go.Proofs.YtieophdbhnpncaaGreat.Flo (simB iIsSimple)
open Go.Proofs.YtieophdbhnpncaaGreat.Rpt (iRepeat rep_heap rep_own)

theorem rowF_ints (z : Int) (n : Nat) : Wg.rowF n (fun _ => z) = ints (List.replicate n z) := by
  unfold Wg.rowF Reg.ints
  simp [List.map_const']
theorem cell_cor (w : World) (x y : Int) (W : World) (e : W = (w.alloc (.cells #[.int .i64 x, .int .i64 y] 38)).alloc (.cells #[.int .i64 x, .int .i64 y] 62)) : AtC W (w.heap.size + 1) x y ∧ Below w.heap.size w W := by
  subst e
  refine ⟨?_, below_alloc2 w _ _⟩
  have k := AtC.new (w.alloc (.cells #[.int .i64 x, .int .i64 y] 38)) x y
  simpa using k
set_option maxHeartbeats 4000000 in
theorem iHeightsOf (w : World) (A : Option Addr) (n cap B : Nat) (xs : List Int) (hx : xs.length = n) (hn : (n : Int) ≤ 9223372036854775807) (h : RowB w B A xs) (hB : B ≤ w.heap.size)
    (A' : Option Addr) (n' cap' B' : Nat) (L : List Dm) (hL : L.length = n') (hn' : (n' : Int) ≤ 9223372036854775807) (hf : Fits L) (h' : RowM w B' A' L) (hB' : B' ≤ w.heap.size) (hcap : n' ≤ cap') :
    Calls Tryz.prog 7 #[.agg #[.slice A n cap], .slice A' n' cap'] w (HgtP xs L w) := by
  have HS := Lib.hid (r1_start w (.slice A n cap))
  have HSim := Lib.hid (fun W (hb : Below w.heap.size w W) => iIsSimple W A n cap B xs hx hn (h.below hb hB) (by have := hb.size; omega))
  have HTil := Lib.hid (fun W (hb : Below w.heap.size w W) => iIsTiling W A n cap B xs hx hn (h.below hb hB) (by have := hb.size; omega) A' n' cap' B' L hL hn' hf (h'.below hb hB') (by have := hb.size; omega) hcap)
  have HCl := Lib.hid (fun W (hb : Below w.heap.size w W) => Reg.iCellsOf W A n cap B xs hx hn (h.below hb hB) (by have := hb.size; omega))
  have HSp := Lib.hid (fun (ht : tilB xs L = true) (F : Nat → Int) hF W b v (hb : Below w.heap.size w W) (hbb : w.heap.size ≤ b) (k : List Int) x y hv hs hst hH ex ey => iSpread A' n' cap' xs L hL hn' hf ht F hF (unH k) W b v k x y (Nat.le_refl _) hv hs hst hH ((h'.below hb hB').mono (by omega)) ex ey)
  clear hx hn h hB hL hn' h' hB' hf hcap
  go_enter Tryz.func7, Tryz.ntmps7
  go_wp2_with fail
  refine (HSim.out _ HS.out.1).mono ?_
  rintro e w1 ⟨rfl, hb1⟩
  have S1 := HS.out.on hb1
  have c0 := S1.2.c0
  clear HS hb1 HSim
  have HEm := Lib.hid (fun (hno : ¬ (simB xs = true ∧ tilB xs L = true)) W (hb : Below w.heap.size w W) => show HgtP xs L w (.returned (.slice none 0 0)) W from
    ⟨[], none, 0, 0, .inr ⟨hno, rfl⟩, rfl, rfl, ⟨rfl, .inl ⟨rfl, rfl⟩⟩, hb⟩)
  cases hs : simB xs with
  | false =>
    have HE := HEm.out (by rw [hs]; simp)
    clear HEm hs
    go_wp2
    go_ret
    exact HE _ S1.1
  | true =>
    go_wp2_with fail
    refine (HTil.out _ S1.1).mono ?_
    rintro e w2 ⟨rfl, hb2⟩
    have S2 := S1.on hb2
    have c0 := S2.2.c0
    clear S1 hb2 HTil
    cases ht : tilB xs L with
    | false =>
      have HE := HEm.out (by rw [ht]; simp)
      clear HEm hs ht
      go_wp2
      go_ret
      exact HE _ S2.1
    | true =>
      clear HEm
      obtain ⟨ok, hp1, hone⟩ := sim_parts hs
      obtain ⟨f, hf⟩ := hts_ex hs ht
      obtain ⟨cx0, cy0, hcell⟩ := cell_ex ok hp1
      obtain ⟨hl1, hl2, hl3⟩ := lc_ex hcell
      obtain ⟨x, y, t, hcs⟩ : ∃ x y t, cellsR xs = (x, y) :: t := by
        have hm := mem_cells.2 hcell
        cases q : cellsR xs with
        | nil => rw [q] at hm; cases hm
        | cons c t => exact ⟨c.1, c.2, t, rfl⟩
      obtain ⟨hrg, hlc⟩ := first_lc ok hcs
      rw [hcs] at HCl
      have hv_x : x = ((lc xs % 9 : Nat) : Int) := by omega
      have hv_y : y = ((lc xs / 9 : Nat) : Int) := by omega
      have HIx := Lib.hid (fun W => iIndexN (lc xs) hl1 hv_x hv_y W)
      have HSpr := Lib.hid (fun W b (hb : Below w.heap.size w W) (hbb : w.heap.size ≤ b) (hH : Hw W b (row0 xs)) => HSp.out ht (hv xs f) (hv_step hf) W b (lc xs) hb hbb (row0 xs) x y hl1 (row0_hs hl1 hl2 (hv_zero xs f)) ((row0_st hl1).2 rfl) hH hv_x hv_y)
      have HFn := Lib.hid (fun (h : List Int) (s : Sx xs (xL L) (yL L) (hv xs f) (row0 xs) h (lc xs)) => show hgtR xs L h ∧ h.length = 81 from ⟨.inl ⟨hs, s.row ok hp1 ht hf hl1 hl2⟩, s.hs.len⟩)
      have H0 := Lib.hid (show (List.replicate 81 (-1000 : Int)).set (lc xs) 0 = row0 xs from rfl)
      have hcI : ((lc xs : Nat) : Int) < 81 := by omega
      have HL1 := Lib.hid hl1
      clear HSp hcell hl3 hl2 hs ht hone hf hp1 ok hcs hlc hrg hv_x hv_y hl1
      generalize row0 xs = h0 at HSpr HFn H0
      generalize lc xs = c at HIx HSpr HFn H0 hcI HL1
      go_upto_region 3 with fail
      have hba := below_alloc1 w2 (.cells #[.int .i64 (-1000)] 3)
      have hw2 : w.heap.size < w2.heap.size := (Array.getElem?_eq_some_iff.1 S2.2).1
      go_wp2_with fail
      refine (iRepeat (-1000) _ w2.heap.size 81 (by omega) (by omega) (by simp) (by simp)).mono ?_
      rintro e w3 ⟨b, rfl, hnum, hb3⟩
      have hH3 : Hw w3 b (List.replicate 81 (-1000)) := by
        have := rep_heap hnum
        rw [rowF_ints] at this
        exact this
      have hbb : w2.heap.size < b := by have := hnum.lt.1; simp at this; omega
      have S3 := S2.on (hba.trans (hb3.mono (by simp)))
      clear hnum hb3 hba S2 c0
      have c0 := S3.2.c0
      have hwb : w.heap.size < b := by omega
      go_wp2_with fail
      refine (HCl.out w3 S3.1).mono ?_
      rintro e w4 ⟨A2, cap2, rfl, hown, hb4⟩
      have S4 := S3.on hb4
      have hH4 := hH3.on hb4
      have hrc := rowC_own hown
      obtain ⟨bc, off, hA2, hcc⟩ := hrc
      obtain ⟨rfl, hbc⟩ := hA2 (by simp)
      obtain ⟨d0, d1⟩ := hcc 0 (x, y) rfl
      simp only [Nat.zero_mul, Nat.add_zero] at d0 d1
      have hlI : (0 : Int) < (((x, y) :: t).length : Int) := by rw [List.length_cons]; omega
      generalize ((x, y) :: t).length = m at hlI ⊢
      clear hown hb4 hcc hA2 S3 hH3 c0
      go_upto_region 6 with fail
      obtain ⟨k1, k2⟩ := cell_cor w4 x y _ rfl
      have S5 := S4.1.trans (k2.mono S4.1.size)
      have hH5 := hH4.on k2
      have hq5 : b < w4.heap.size := hH4.lt
      generalize (w4.alloc (.cells #[.int .i64 x, .int .i64 y] 38)).alloc (.cells #[.int .i64 x, .int .i64 y] 62) = w5 at k1 S5 hH5 ⊢
      have hqc : b ≠ w4.heap.size + 1 := by omega
      generalize w4.heap.size + 1 = qc at k1 hqc ⊢
      clear S4 hH4 k2 d0 d1
      have d0 := k1.c0
      have d1 := k1.c1
      go_wp2_with fail
      refine (HIx.out w5).mono ?_
      rintro e w6 ⟨rfl, hb6⟩
      have k1 := k1.on hb6
      have S6 := S5.trans (hb6.mono S5.size)
      have hH6 := hH5.on hb6
      clear hb6 S5 hH5 d0 d1
      have d0 := k1.c0
      have d1 := k1.c1
      have hz := hH6.cell (v := c) (x := -1000) (by rw [List.getElem?_replicate, if_pos HL1.out])
      have hzf := hH6.frozen c
      go_upto_region 7 with fail
      have hH7 := hH6.set (v := c) (by rw [List.length_replicate]; exact HL1.out) 0
      rw [H0.out] at hH7
      have k1 := k1.far (p := b) (i := c) (v := .int .i64 0) hqc.symm
      have S7 := S6.setCell (p := ⟨b, c, none⟩) (by show w.heap.size ≤ b; omega) (.int .i64 0)
      clear d0 d1 S6 hH6 hz hzf
      generalize w6.setCell ⟨b, c, none⟩ (.int .i64 0) = w7 at hH7 k1 S7 ⊢
      have d0 := k1.c0
      have d1 := k1.c1
      go_wp2_with fail
      refine (HSpr.out w7 b S7 (by omega) hH7).mono ?_
      rintro e w8 ⟨rfl, h', hs', hH8, ha⟩
      have HF := Lib.hid (HFn.out h' hs')
      have HO := Lib.hid (rep_own (base := w.heap.size) (b := b) (n := 81) (xs := ints h') (by omega) (by unfold Reg.ints; rw [List.length_map]; exact HF.out.2) (by omega) hH8)
      have HB := Lib.hid (S7.trans (ha.below (B := w.heap.size) (by omega) S7.size))
      clear d0 d1 k1 S7 hH7 hs' hH8 ha
      go_wp2
      go_ret
      exact ⟨h', some ⟨b, 0, none⟩, 81, 81, HF.out.1, HF.out.2, rfl, HO.out, HB.out⟩
end Go.Proofs.YtieophdbhnpncaaGreat.Cor

/- slices.Equal at ints; TilingFrom, the program's. -/
namespace Go.Proofs.YtieophdbhnpncaaGreat.Cor
set_option linter.unusedVariables false
set_option linter.unusedSimpArgs false
set_option maxRecDepth 100000
open Go.RowKit Go.Proofs.YtieophdbhnpncaaGreat.Base Go.Proofs.YtieophdbhnpncaaGreat.Pure Go.Proofs.YtieophdbhnpncaaGreat.Cell Go.Proofs.YtieophdbhnpncaaGreat.Dom Go.Proofs.YtieophdbhnpncaaGreat.Dms Go.Proofs.YtieophdbhnpncaaGreat.Til Go.Proofs.YtieophdbhnpncaaGreat.Hgt Go.Joins
open Go.Proofs.YtieophdbhnpncaaGreat.Reg (ints RowB rowB_own own_below own_base)

set_option maxHeartbeats 1000000 in
theorem iEqualI (w : World) (A A' : Option Addr) (n m cap cap' : Nat) (B B' : Nat) (xs ys : List Int) (hx : xs.length = n) (hy : ys.length = m) (hl : (n : Int) ≤ 9223372036854775807) (h1 : RowB w B A xs) (h2 : RowB w B' A' ys) :
    Calls Tryz.prog 36 #[.slice A n cap, .slice A' m cap'] w fun e w' => e = .returned (.bool (decide (xs = ys))) ∧ ∃ q, w' = w.drewN q := by
  obtain ⟨b, off, hA, hc⟩ := h1
  obtain ⟨b', off', hA', hc'⟩ := h2
  by_cases hnm : n = m
  rotate_left
  · have hne : decide (xs = ys) = false := decide_eq_false (fun e => hnm (by rw [← hx, ← hy, e]))
    rw [hne]
    have hnn : (((n : Nat) : Int) != ((m : Nat) : Int)) = true := by simp; omega
    clear hA hA' hc hc' hx hy hne
    go_enter Tryz.func36, Tryz.ntmps36
    go_wp2
    go_ret
    exact ⟨rfl, 0, rfl⟩
  subst hnm
  have H1 := Lib.hid hA
  have H2 := Lib.hid hA'
  have H3 := Lib.hid hc
  have H4 := Lib.hid hc'
  have HX := Lib.hid hx
  have HY := Lib.hid hy
  have HT : Hid (xs = ys → decide (xs = ys) = true) := Lib.hid (fun h => decide_eq_true h)
  have HF : Hid (¬ xs = ys → decide (xs = ys) = false) := Lib.hid (fun h => decide_eq_false h)
  generalize decide (xs = ys) = r at HT HF ⊢
  clear hA hA' hc hc' hx hy
  have hnn : (((n : Nat) : Int) != ((n : Nat) : Int)) = false := by simp
  go_enter Tryz.func36, Tryz.ntmps36
  go_wp2_with fail
  go_loopw [5, 13] (fun _ i wr => ∃ k : Nat, k ≤ n ∧ i = .int .i64 k ∧ Hid (xs.take k = ys.take k) ∧ ∃ q, wr = w.drewN q) (fun _ i _ => n - (intOf i).toNat)
  case atStart => exact ⟨0, Nat.zero_le _, rfl, Lib.hid rfl, 0, rfl⟩
  case round =>
    obtain ⟨k, hk, rfl, hs, q, rfl⟩ := hrel
    by_cases hlt : k < n
    · have hkx : k < xs.length := by have := HX.out; omega
      have hky : k < ys.length := by have := HY.out; omega
      obtain ⟨rfl, _⟩ := H1.out (by omega)
      obtain ⟨rfl, _⟩ := H2.out (by omega)
      have hx := H3.out k xs[k] (List.getElem?_eq_getElem hkx)
      have hy := H4.out k ys[k] (List.getElem?_eq_getElem hky)
      have HS := Lib.hid (fun e => same_take hs.out hkx hky e)
      have HN := Lib.hid (show xs[k] ≠ ys[k] → ¬ xs = ys from fun h e => h (by subst e; rfl))
      clear hs
      generalize xs[k] = t at hx HS HN
      generalize ys[k] = u at hy HS HN
      by_cases hq : t = u
      · subst hq
        have hq : (t != t) = false := by simp
        go_wp2_with fail
        go_quiet (fail)
        go_wp2
        go_roundw
        case rel => exact ⟨k + 1, by omega, by go_num, Lib.hid (HS.out trivial), _, by first | rfl | rw [World.drewN_drewN]⟩
        case measure => (simp [intOf] <;> omega)
      · have hr := HF.out (HN.out hq)
        subst hr
        have hq' : (t != u) = true := by simpa using hq
        go_wp2_with fail
        go_quiet (fail)
        go_wp2
        go_ret
        exact ⟨rfl, _, by first | rfl | rw [World.drewN_drewN]⟩
    · have hr := HT.out (by
        have e := hs.out
        rw [List.take_of_length_le (by have := HX.out; omega), List.take_of_length_le (by have := HY.out; omega)] at e
        exact e)
      subst hr
      clear hs
      go_wp2
      go_ret
      exact ⟨rfl, q, rfl⟩
/-- what TilingFrom leaves. -/
def TfP (xs hs : List Int) (w : World) (e : Ending) (w' : World) : Prop :=
  ∃ (M : List Dm) (ok : Bool) (A : Option Addr) (n c : Nat), tfR xs hs M ok ∧ M.length = n ∧ e = .returned (.tuple #[.slice A n c, .bool ok]) ∧ w'.ownsRow w.heap.size 67 3 (.slice A n c) n (rowM M) ∧ n ≤ c ∧ Below w.heap.size w w'
theorem sort_fits (C : List Dm) : Fits (sortM C) := ok_fits (fun e he => (((sortM_good C).2 e).1 he).2)
set_option maxHeartbeats 2000000 in
theorem iTilingFrom (w : World) (A : Option Addr) (n cap B : Nat) (xs : List Int) (hx : xs.length = n) (hn : (n : Int) ≤ 9223372036854775807) (h : RowB w B A xs) (hB : B ≤ w.heap.size)
    (A' : Option Addr) (n' cap' B' : Nat) (hs : List Int) (hh : hs.length = n') (hn' : (n' : Int) ≤ 9223372036854775807) (h' : RowB w B' A' hs) (hB' : B' ≤ w.heap.size)
    (iSort : ∀ (W : World) (A1 : Option Addr) (n c : Nat) (L : List Dm), L.length = n → (n : Int) ≤ 1048576 → Fits L → RowM W W.heap.size A1 L → Calls Tryz.prog 68 #[.slice A1 n c] W (DmPost (sortM L) (sortM L).length W)) :
    Calls Tryz.prog 8 #[.agg #[.slice A n cap], .slice A' n' cap'] w (TfP xs hs w) := by
  have HS := Lib.hid (r1_start w (.slice A n cap))
  have HNo := Lib.hid (fun W (hb : Below w.heap.size w W) (ht : tfR xs hs [] false) => show TfP xs hs w (.returned (.tuple #[.slice none 0 0, .bool false])) W from ⟨[], false, none, 0, 0, ht, rfl, rfl, ⟨rfl, .inl ⟨rfl, rfl⟩⟩, Nat.le_refl _, hb⟩)
  by_cases h81 : n' = 81
  rotate_left
  · have hne : ((n' : Int) != 81) = true := by simp; omega
    have HT := Lib.hid (tf_short (xs := xs) (hs := hs) (by rw [hh]; exact h81))
    clear hx hn h hB hh hn' h' hB' iSort h81
    go_enter Tryz.func8, Tryz.ntmps8
    go_wp2
    exact bodyPost_ret (v := .tuple #[.slice none 0 0, .bool false]) (by simp [results, Tryz.results8, go_sem]) rfl (HNo.out _ HS.out.1 HT.out)
  · subst h81
    have HDv := Lib.hid (fun W (hb : Below w.heap.size w W) => iDivided W A' cap' B' hs hh (h'.below hb hB') (by have := hb.size; omega) A n cap B xs hx hn (h.below hb hB) (by have := hb.size; omega) iSort)
    have HHg := Lib.hid (fun W (hb : Below w.heap.size w W) A1 m c1 (L : List Dm) (hL : L.length = m) (hm : m ≤ 1000000) hf (hr : RowM W W.heap.size A1 L) hcp => iHeightsOf W A n cap B xs hx hn (h.below hb hB) (by have := hb.size; omega) A1 m c1 W.heap.size L hL (by omega) hf hr (Nat.le_refl _) hcp)
    have HEq := Lib.hid (fun W (hb : Below w.heap.size w W) A1 m c1 (ys : List Int) (hy : ys.length = m) (hm : m ≤ 1000000) (hr : RowB W W.heap.size A1 ys) => iEqualI W A1 A' m 81 c1 cap' W.heap.size B' ys hs hy hh (by omega) hr (h'.below hb hB'))
    have HYs := Lib.hid (fun M h (hr : hgtR xs M h) (e : h = hs) => tf_yes (xs := xs) (hs := hs) (M := M) hh hr e)
    clear hx hn h hB hh hn' h' hB' iSort
    go_enter Tryz.func8, Tryz.ntmps8
    go_wp2_with fail
    have c0 := HS.out.2.c0
    refine (HDv.out _ HS.out.1).mono ?_
    rintro e w2 ⟨C, hC, hCl, A2, c2, rfl, hle, hown, hb2⟩
    have hbz := HS.out.1.size
    have S2 := HS.out.on hb2
    have HC := Lib.hid hC
    have HO2 := Lib.hid hown
    have HB2 := Lib.hid hb2
    have HF2 := Lib.hid (sort_fits C)
    have HLe := Lib.hid hle
    clear hC hown hle HS HDv c0
    obtain ⟨M, hM⟩ : ∃ M, sortM C = M := ⟨_, rfl⟩
    have HM := Lib.hid hM
    rw [hM] at HO2 HF2 HLe ⊢
    have hml : M.length ≤ 1000000 := by rw [← hM]; have := sortM_length C; omega
    obtain ⟨m, hm⟩ : ∃ m, M.length = m := ⟨_, rfl⟩
    have HMl := Lib.hid hm
    rw [hm] at HO2 HLe hml ⊢
    clear hM hm hb2 hCl
    have c0 := S2.2.c0
    go_wp2_with fail
    refine (HHg.out _ S2.1 _ _ _ M HMl.out hml HF2.out (rowM_own HO2.out) HLe.out).mono ?_
    rintro e w3 ⟨h3, A3, n3, c3, hr3, hl3, rfl, hown3, hb3⟩
    have S3 := S2.on hb3
    have HR3 := Lib.hid hr3
    have h3l : n3 ≤ 1000000 := by have := hgtR_len hr3; omega
    have HE3 := Lib.hid (HEq.out w3 S3.1 A3 n3 c3 h3 hl3 h3l (rowB_own hown3))
    have HO3 := Lib.hid (own_base (own_below HO2.out hb3 (Nat.le_refl _)) hbz)
    clear hr3 hl3 hown3 hb3 S2 c0 HO2
    have HRM := Lib.hid (show ∀ M', M' = M → True from fun _ _ => trivial)
    clear HRM
    go_wp2_with fail
    refine HE3.out.mono ?_
    rintro e w4 ⟨rfl, q, rfl⟩
    have HB4 := Lib.hid (drewBelow S3.1 q)
    have HO4 := Lib.hid (show (w3.drewN q).ownsRow w.heap.size 67 3 (.slice A2 m c2) m (rowM M) from own_below HO3.out (drewBelow (Below.refl _ _) q) (Nat.le_refl _))
    clear S3 HE3 HEq HHg hbz
    by_cases hq : h3 = hs
    · have HTy := Lib.hid (HYs.out M h3 HR3.out hq)
      rw [decide_eq_true hq]
      clear hq HYs
      go_wp2
      exact bodyPost_ret (v := .tuple #[.slice A2 m c2, .bool true]) (by simp [results, Tryz.results8, go_sem]) rfl ⟨M, true, A2, m, c2, HTy.out, HMl.out, rfl, HO4.out, HLe.out, HB4.out⟩
    · have HTn := Lib.hid (tf_no HC.out (by rw [HM.out]; exact HR3.out) hq)
      rw [decide_eq_false hq]
      clear hq HYs
      go_wp2
      exact bodyPost_ret (v := .tuple #[.slice none 0 0, .bool false]) (by simp [results, Tryz.results8, go_sem]) rfl (HNo.out _ HB4.out HTn.out)
end Go.Proofs.YtieophdbhnpncaaGreat.Cor
