/- RegCn, TilT, HgI, FlmS in one text. -/
import Derived.Test.YtieophdbhnpncaaMp29
import Derived.Test.YtieophdbhnpncaaMp46
import Derived.Test.YtieophdbhnpncaaMp39
import Derived.Test.YtieophdbhnpncaaMp43
import Derived.Test.YtieophdbhnpncaaMp45
import Derived.Test.YtieophdbhnpncaaMp01
import Derived.Test.YtieophdbhnpncaaMp02
import Derived.Test.YtieophdbhnpncaaMp03
import Derived.Test.YtieophdbhnpncaaMp11
import Derived.BigQuiet
import Derived.Deep.QuietTactic
import Derived.Deep.Cut

/- CountCells: the program's function and the model's. -/
namespace Go.Proofs.Ytieophdbhnpncaa.Reg
set_option linter.unusedVariables false
open Go.RowKit Go.Proofs.Ytieophdbhnpncaa.Base Go.Proofs.Ytieophdbhnpncaa.Pure Go.Proofs.Ytieophdbhnpncaa.Cell Go.Proofs.Ytieophdbhnpncaa.Cels Go.Joins

/-- how many cells a region has. -/
def countR (xs : List Int) : Int := ((cellsR xs).length : Int)

set_option maxHeartbeats 400000 in
theorem sCountCells (w : World) (A : Option Addr) (n cap B : Nat) (xs : List Int) (hx : xs.length = n) (hn : (n : Int) ≤ 9223372036854775807) (h : RowB w B A xs) (hB : B ≤ w.heap.size) :
    Calls Try.prog 33 #[.agg #[.slice A n cap]] w (Num (countR xs) w) := by
  have HC := Lib.hid (fun W (hb : Below w.heap.size w W) => sCellsOf W A n cap B xs hx hn (h.below hb hB) (by have := hb.size; omega))
  have HB := Lib.hid (fun (o1 : Obj) => below_alloc1 w o1)
  have HE := Lib.hid (show countR xs = ((cellsR xs).length : Int) from rfl)
  clear hx hn h
  generalize cellsR xs = L at HC HE
  go_enter Try.func33, Try.ntmps33
  go_wp2_with fail
  refine (HC.out _ (HB.out _)).mono ?_
  rintro e w1 ⟨A1, cap1, rfl, _, hb1⟩
  have hb := (HB.out (.cells #[.slice A n cap] 31)).trans (hb1.mono (by simp))
  clear hb1
  go_wp2
  go_ret
  exact mkNum HE.out.symm hb
end Go.Proofs.Ytieophdbhnpncaa.Reg

/- IsTiling: the program's function and the model's say the same of every region and every list. -/
namespace Go.Proofs.Ytieophdbhnpncaa.Til
set_option linter.unusedVariables false
set_option linter.unusedSimpArgs false
open Go.RowKit Go.Proofs.Ytieophdbhnpncaa.Base Go.Proofs.Ytieophdbhnpncaa.Pure Go.Proofs.Ytieophdbhnpncaa.Cell Go.Proofs.Ytieophdbhnpncaa.CellF Go.Proofs.Ytieophdbhnpncaa.Cels Go.Proofs.Ytieophdbhnpncaa.Dom Go.Proofs.Ytieophdbhnpncaa.Dms Go.Joins
open Go.Proofs.Ytieophdbhnpncaa.Reg hiding Yes add_none RC rc_start

set_option maxRecDepth 100000 in
set_option maxHeartbeats 1000000 in
theorem iIsTiling (w : World) (A : Option Addr) (n cap B : Nat) (xs : List Int) (hx : xs.length = n) (hn : (n : Int) ≤ 9223372036854775807) (h : RowB w B A xs) (hB : B ≤ w.heap.size)
    (A' : Option Addr) (n' cap' B' : Nat) (L : List Dm) (hL : L.length = n') (hn' : (n' : Int) ≤ 9223372036854775807) (hf : Fits L) (h' : RowM w B' A' L) (hB' : B' ≤ w.heap.size) (hcap : n' ≤ cap') :
    Calls Try.prog 40 #[.agg #[.slice A n cap], .slice A' n' cap'] w (Bol (tilB xs L) w) := by
  have HS := Lib.hid (r1_start w (.slice A n cap))
  have HP := Lib.hid (fun W (hb : Below w.heap.size w W) => iIsPartial W A n cap B xs hx hn (h.below hb hB) (by have := hb.size; omega) A' n' cap' B' L hL hn' hf (h'.below hb hB') (by have := hb.size; omega) hcap)
  have HU := Lib.hid (fun W (hb : Below w.heap.size w W) => iUncoveredOf W A n cap B xs hx hn (h.below hb hB) (by have := hb.size; omega) A' n' cap' B' L hL hn' hf (h'.below hb hB') (by have := hb.size; omega))
  have HT := Lib.hid (show tilB xs L = (partB xs L && decide ((unc L (cellsR xs)).length = 0)) from rfl)
  have hu : (unc L (cellsR xs)).length ≤ 64 := Nat.le_trans (unc_length _ _) (cellsR_length xs)
  generalize tilB xs L = t at HT ⊢
  generalize partB xs L = p at HP HT
  unfold NbPost at HU
  generalize unc L (cellsR xs) = U at HU HT hu
  generalize hm : U.length = m at HU HT hu
  clear hx hn h hB hL hn' hf h' hB' hcap hm
  go_enter Try.func40, Try.ntmps40
  go_wp2_with fail
  have T0 := HS.out
  refine (HP.out _ T0.1).mono ?_
  rintro e w1 ⟨rfl, hb1⟩
  have T1 := T0.on hb1
  have c0 := T1.2.c0
  clear T0 HS hb1 HP
  cases p with
  | false =>
    go_wp2
    go_ret
    exact mkBol (by rw [HT.out]; rfl) T1.1
  | true =>
    go_wp2_with fail
    refine (HU.out _ T1.1).mono ?_
    rintro e w2 ⟨A2, cap2, rfl, _, hb2⟩
    have hb := T1.1.trans (hb2.mono T1.1.size)
    clear T1 c0 hb2 HU
    by_cases h0 : m = 0
    · have HE := Lib.hid (show t = true by rw [HT.out, decide_eq_true h0]; rfl)
      have h1 : ((m : Nat) : Int) = 0 := by omega
      go_wp2
      go_ret
      exact mkBol (by simp [HE.out] <;> omega) hb
    · have HE := Lib.hid (show t = false by rw [HT.out, decide_eq_false h0]; rfl)
      have h1 : ¬ ((m : Nat) : Int) = 0 := by omega
      go_wp2
      go_ret
      exact mkBol (by simp [HE.out] <;> omega) hb

set_option maxRecDepth 100000 in
set_option maxHeartbeats 1000000 in
theorem sIsTiling (w : World) (A : Option Addr) (n cap B : Nat) (xs : List Int) (hx : xs.length = n) (hn : (n : Int) ≤ 9223372036854775807) (h : RowB w B A xs) (hB : B ≤ w.heap.size)
    (A' : Option Addr) (n' cap' B' : Nat) (L : List Dm) (hL : L.length = n') (hn' : (n' : Int) ≤ 9223372036854775807) (h' : RowM w B' A' L) (hB' : B' ≤ w.heap.size) :
    Calls Try.prog 32 #[.agg #[.slice A n cap], .slice A' n' cap'] w (Bol (tilB xs L) w) := by
  have HS := Lib.hid (r1_start w (.slice A n cap))
  have HP := Lib.hid (fun W (hb : Below w.heap.size w W) => sIsPartial W A n cap B xs hx hn (h.below hb hB) (by have := hb.size; omega) A' n' cap' B' L hL hn' (h'.below hb hB') (by have := hb.size; omega))
  have HC := Lib.hid (fun W (hb : Below w.heap.size w W) => sCountCells W A n cap B xs hx hn (h.below hb hB) (by have := hb.size; omega))
  have HT := Lib.hid (fun hp => hL ▸ tilB_count (xs := xs) (L := L) hp)
  have HF := Lib.hid (show partB xs L = false → tilB xs L = false from fun hp => by unfold tilB; rw [hp]; rfl)
  have HN := Lib.hid (fun hp => hL ▸ part_length (xs := xs) (L := L) hp)
  have hc := cellsR_length xs
  generalize tilB xs L = t at HT HF ⊢
  generalize partB xs L = p at HP HT HF HN
  unfold countR at HC
  generalize (cellsR xs).length = m at HC HT hc
  clear hx hn h hB hL hn' h' hB'
  go_enter Try.func32, Try.ntmps32
  go_wp2_with fail
  have T0 := HS.out
  refine (HP.out _ T0.1).mono ?_
  rintro e w1 ⟨rfl, hb1⟩
  have T1 := T0.on hb1
  have c0 := T1.2.c0
  clear T0 HS hb1 HP
  cases p with
  | false =>
    have HE := Lib.hid (HF.out rfl)
    go_wp2
    go_ret
    exact mkBol (by rw [HE.out]) T1.1
  | true =>
    have hn2 : 2 * n' ≤ 64 := HN.out rfl
    have HT2 := Lib.hid (HT.out (by first | rfl | trivial))
    clear HF HN
    go_wp2_with fail
    refine (HC.out _ T1.1).mono ?_
    rintro e w2 ⟨rfl, hb2⟩
    have hb := T1.1.trans (hb2.mono T1.1.size)
    clear T1 c0 hb2 HC
    by_cases h0 : 2 * n' = m
    · have HE := Lib.hid (show t = true by rw [HT2.out, decide_eq_true h0])
      have h1 : 2 * (n' : Int) = ((m : Nat) : Int) := by omega
      go_wp2
      go_ret
      exact mkBol (by simp [HE.out] <;> omega) hb
    · have HE := Lib.hid (show t = false by rw [HT2.out, decide_eq_false h0])
      have h1 : ¬ 2 * (n' : Int) = ((m : Nat) : Int) := by omega
      go_wp2
      go_ret
      exact mkBol (by simp [HE.out] <;> omega) hb
end Go.Proofs.Ytieophdbhnpncaa.Til

/- HeightsOf, the program's. -/
namespace Go.Proofs.Ytieophdbhnpncaa.Cor
set_option linter.unusedVariables false
set_option linter.unusedSimpArgs false
set_option maxRecDepth 100000
open Go.RowKit Go.Proofs.Ytieophdbhnpncaa.Base Go.Proofs.Ytieophdbhnpncaa.Pure Go.Proofs.Ytieophdbhnpncaa.Cell Go.Proofs.Ytieophdbhnpncaa.Dom Go.Proofs.Ytieophdbhnpncaa.Dms Go.Proofs.Ytieophdbhnpncaa.Til Go.Proofs.Ytieophdbhnpncaa.Hgt Go.Joins
open Go.Proofs.Ytieophdbhnpncaa.Cels (rowC RowC rowC_own rowC_at)
open Go.Proofs.Ytieophdbhnpncaa.Reg (ints RowIn rowIn_new Apart apart_of_below RowB)
open Go.Proofs.Ytieophdbhnpncaa.Flo (simB iIsSimple)
open Go.Proofs.Ytieophdbhnpncaa.Rpt (iRepeat rep_heap rep_own)

theorem rowF_ints (z : Int) (n : Nat) : Wg.rowF n (fun _ => z) = ints (List.replicate n z) := by
  unfold Wg.rowF Reg.ints
  simp [List.map_const']
theorem cell_cor (w : World) (x y : Int) (W : World) (e : W = (w.alloc (.cells #[.int .i64 x, .int .i64 y] 54)).alloc (.cells #[.int .i64 x, .int .i64 y] 48)) : AtC W (w.heap.size + 1) x y ∧ Below w.heap.size w W := by
  subst e
  refine ⟨?_, below_alloc2 w _ _⟩
  have k := AtC.new (w.alloc (.cells #[.int .i64 x, .int .i64 y] 54)) x y
  simpa using k
set_option maxHeartbeats 4000000 in
theorem iHeightsOf (w : World) (A : Option Addr) (n cap B : Nat) (xs : List Int) (hx : xs.length = n) (hn : (n : Int) ≤ 9223372036854775807) (h : RowB w B A xs) (hB : B ≤ w.heap.size)
    (A' : Option Addr) (n' cap' B' : Nat) (L : List Dm) (hL : L.length = n') (hn' : (n' : Int) ≤ 9223372036854775807) (hf : Fits L) (h' : RowM w B' A' L) (hB' : B' ≤ w.heap.size) (hcap : n' ≤ cap') :
    Calls Try.prog 13 #[.agg #[.slice A n cap], .slice A' n' cap'] w (HgtP xs L w) := by
  have HS := Lib.hid (r1_start w (.slice A n cap))
  have HSim := Lib.hid (fun W (hb : Below w.heap.size w W) => iIsSimple W A n cap B xs hx hn (h.below hb hB) (by have := hb.size; omega))
  have HTil := Lib.hid (fun W (hb : Below w.heap.size w W) => iIsTiling W A n cap B xs hx hn (h.below hb hB) (by have := hb.size; omega) A' n' cap' B' L hL hn' hf (h'.below hb hB') (by have := hb.size; omega) hcap)
  have HCl := Lib.hid (fun W (hb : Below w.heap.size w W) => Reg.iCellsOf W A n cap B xs hx hn (h.below hb hB) (by have := hb.size; omega))
  have HSp := Lib.hid (fun (ht : tilB xs L = true) (F : Nat → Int) hF W b v (hb : Below w.heap.size w W) (hbb : w.heap.size ≤ b) (k : List Int) x y hv hs hst hH ex ey => iSpread A' n' cap' xs L hL hn' hf ht F hF (unH k) W b v k x y (Nat.le_refl _) hv hs hst hH ((h'.below hb hB').mono (by omega)) ex ey)
  clear hx hn h hB hL hn' h' hB' hf hcap
  go_enter Try.func13, Try.ntmps13
  go_wp2_with fail
  refine (HSim.out _ HS.out.1).mono ?_
  rintro e w1 ⟨rfl, hb1⟩
  have S1 := HS.out.on hb1
  have c0 := S1.2.c0
  clear HS hb1 HSim
  have HEm := Lib.hid (fun (hno : ¬ (simB xs = true ∧ tilB xs L = true)) W (hb : Below w.heap.size w W) => show HgtP xs L w (.returned (.slice none 0 0)) W from
    ⟨[], none, 0, 0, .inr ⟨hno, rfl⟩, rfl, rfl, ⟨rfl, .inl ⟨rfl, rfl⟩⟩, hb⟩)
  cases hs : simB xs with
  | false =>
    have HE := HEm.out (by rw [hs]; simp)
    clear HEm hs
    go_wp2
    go_ret
    exact HE _ S1.1
  | true =>
    go_wp2_with fail
    refine (HTil.out _ S1.1).mono ?_
    rintro e w2 ⟨rfl, hb2⟩
    have S2 := S1.on hb2
    have c0 := S2.2.c0
    clear S1 hb2 HTil
    cases ht : tilB xs L with
    | false =>
      have HE := HEm.out (by rw [ht]; simp)
      clear HEm hs ht
      go_wp2
      go_ret
      exact HE _ S2.1
    | true =>
      clear HEm
      obtain ⟨ok, hp1, hone⟩ := sim_parts hs
      obtain ⟨f, hf⟩ := hts_ex hs ht
      obtain ⟨cx0, cy0, hcell⟩ := cell_ex ok hp1
      obtain ⟨hl1, hl2, hl3⟩ := lc_ex hcell
      obtain ⟨x, y, t, hcs⟩ : ∃ x y t, cellsR xs = (x, y) :: t := by
        have hm := mem_cells.2 hcell
        cases q : cellsR xs with
        | nil => rw [q] at hm; cases hm
        | cons c t => exact ⟨c.1, c.2, t, rfl⟩
      obtain ⟨hrg, hlc⟩ := first_lc ok hcs
      rw [hcs] at HCl
      have hv_x : x = ((lc xs % 9 : Nat) : Int) := by omega
      have hv_y : y = ((lc xs / 9 : Nat) : Int) := by omega
      have HIx := Lib.hid (fun W => iIndexN (lc xs) hl1 hv_x hv_y W)
      have HSpr := Lib.hid (fun W b (hb : Below w.heap.size w W) (hbb : w.heap.size ≤ b) (hH : Hw W b (row0 xs)) => HSp.out ht (hv xs f) (hv_step hf) W b (lc xs) hb hbb (row0 xs) x y hl1 (row0_hs hl1 hl2 (hv_zero xs f)) ((row0_st hl1).2 rfl) hH hv_x hv_y)
      have HFn := Lib.hid (fun (h : List Int) (s : Sx xs (xL L) (yL L) (hv xs f) (row0 xs) h (lc xs)) => show hgtR xs L h ∧ h.length = 81 from ⟨.inl ⟨hs, s.row ok hp1 ht hf hl1 hl2⟩, s.hs.len⟩)
      have H0 := Lib.hid (show (List.replicate 81 (-1000 : Int)).set (lc xs) 0 = row0 xs from rfl)
      have hcI : ((lc xs : Nat) : Int) < 81 := by omega
      have HL1 := Lib.hid hl1
      clear HSp hcell hl3 hl2 hs ht hone hf hp1 ok hcs hlc hrg hv_x hv_y hl1
      generalize row0 xs = h0 at HSpr HFn H0
      generalize lc xs = c at HIx HSpr HFn H0 hcI HL1
      go_upto_region 3 with fail
      have hba := below_alloc1 w2 (.cells #[.int .i64 (-1000)] 3)
      have hw2 : w.heap.size < w2.heap.size := (Array.getElem?_eq_some_iff.1 S2.2).1
      go_wp2_with fail
      refine (iRepeat (-1000) _ w2.heap.size 81 (by omega) (by omega) (by simp) (by simp)).mono ?_
      rintro e w3 ⟨b, rfl, hnum, hb3⟩
      have hH3 : Hw w3 b (List.replicate 81 (-1000)) := by
        have := rep_heap hnum
        rw [rowF_ints] at this
        exact this
      have hbb : w2.heap.size < b := by have := hnum.lt.1; simp at this; omega
      have S3 := S2.on (hba.trans (hb3.mono (by simp)))
      clear hnum hb3 hba S2 c0
      have c0 := S3.2.c0
      have hwb : w.heap.size < b := by omega
      go_wp2_with fail
      refine (HCl.out w3 S3.1).mono ?_
      rintro e w4 ⟨A2, cap2, rfl, hown, hb4⟩
      have S4 := S3.on hb4
      have hH4 := hH3.on hb4
      have hrc := rowC_own hown
      obtain ⟨bc, off, hA2, hcc⟩ := hrc
      obtain ⟨rfl, hbc⟩ := hA2 (by simp)
      obtain ⟨d0, d1⟩ := hcc 0 (x, y) rfl
      simp only [Nat.zero_mul, Nat.add_zero] at d0 d1
      have hlI : (0 : Int) < (((x, y) :: t).length : Int) := by rw [List.length_cons]; omega
      generalize ((x, y) :: t).length = m at hlI ⊢
      clear hown hb4 hcc hA2 S3 hH3 c0
      go_upto_region 6 with fail
      obtain ⟨k1, k2⟩ := cell_cor w4 x y _ rfl
      have S5 := S4.1.trans (k2.mono S4.1.size)
      have hH5 := hH4.on k2
      have hq5 : b < w4.heap.size := hH4.lt
      generalize (w4.alloc (.cells #[.int .i64 x, .int .i64 y] 54)).alloc (.cells #[.int .i64 x, .int .i64 y] 48) = w5 at k1 S5 hH5 ⊢
      have hqc : b ≠ w4.heap.size + 1 := by omega
      generalize w4.heap.size + 1 = qc at k1 hqc ⊢
      clear S4 hH4 k2 d0 d1
      have d0 := k1.c0
      have d1 := k1.c1
      go_wp2_with fail
      refine (HIx.out w5).mono ?_
      rintro e w6 ⟨rfl, hb6⟩
      have k1 := k1.on hb6
      have S6 := S5.trans (hb6.mono S5.size)
      have hH6 := hH5.on hb6
      clear hb6 S5 hH5 d0 d1
      have d0 := k1.c0
      have d1 := k1.c1
      have hz := hH6.cell (v := c) (x := -1000) (by rw [List.getElem?_replicate, if_pos HL1.out])
      have hzf := hH6.frozen c
      go_upto_region 7 with fail
      have hH7 := hH6.set (v := c) (by rw [List.length_replicate]; exact HL1.out) 0
      rw [H0.out] at hH7
      have k1 := k1.far (p := b) (i := c) (v := .int .i64 0) hqc.symm
      have S7 := S6.setCell (p := ⟨b, c, none⟩) (by show w.heap.size ≤ b; omega) (.int .i64 0)
      clear d0 d1 S6 hH6 hz hzf
      generalize w6.setCell ⟨b, c, none⟩ (.int .i64 0) = w7 at hH7 k1 S7 ⊢
      have d0 := k1.c0
      have d1 := k1.c1
      go_wp2_with fail
      refine (HSpr.out w7 b S7 (by omega) hH7).mono ?_
      rintro e w8 ⟨rfl, h', hs', hH8, ha⟩
      have HF := Lib.hid (HFn.out h' hs')
      have HO := Lib.hid (rep_own (base := w.heap.size) (b := b) (n := 81) (xs := ints h') (by omega) (by unfold Reg.ints; rw [List.length_map]; exact HF.out.2) (by omega) hH8)
      have HB := Lib.hid (S7.trans (ha.below (B := w.heap.size) (by omega) S7.size))
      clear d0 d1 k1 S7 hH7 hs' hH8 ha
      go_wp2
      go_ret
      exact ⟨h', some ⟨b, 0, none⟩, 81, 81, HF.out.1, HF.out.2, rfl, HO.out, HB.out⟩
end Go.Proofs.Ytieophdbhnpncaa.Cor

/- Flips, the model's: the two dominoes at a cell, where a domino stands in a list, which pair lies at a cell. -/
namespace Go.Proofs.Ytieophdbhnpncaa.Dom
open Go.RowKit Go.Proofs.Ytieophdbhnpncaa.Base Go.Proofs.Ytieophdbhnpncaa.Cell Go.Joins
theorem At3.far3 {T : TypeId} {W : World} {p q : Nat} {x y : Int} {b : Bool} {v1 v2 v3 : Value} (h : At3 T W q x y b) (hp : q ≠ p) : At3 T (((W.setCell ⟨p, 0, none⟩ v1).setCell ⟨p, 1, none⟩ v2).setCell ⟨p, 2, none⟩ v3) q x y b := ((h.far hp).far hp).far hp
theorem At2.far3 {W : World} {p q : Nat} {x y : Int} {v1 v2 v3 : Value} (h : At2 W q x y) (hp : q ≠ p) : At2 (((W.setCell ⟨p, 0, none⟩ v1).setCell ⟨p, 1, none⟩ v2).setCell ⟨p, 2, none⟩ v3) q x y := ((h.far hp).far hp).far hp
theorem at3_two (T : TypeId) (W : World) (x y : Int) (b : Bool) (u v : Int) (c : Bool) :
    At3 T ((W.alloc (.cells #[.int .i64 x, .int .i64 y, .bool b] T)).alloc (.cells #[.int .i64 u, .int .i64 v, .bool c] T)) W.heap.size x y b ∧
    At3 T ((W.alloc (.cells #[.int .i64 x, .int .i64 y, .bool b] T)).alloc (.cells #[.int .i64 u, .int .i64 v, .bool c] T)) (W.heap.size + 1) u v c ∧
    Below W.heap.size W ((W.alloc (.cells #[.int .i64 x, .int .i64 y, .bool b] T)).alloc (.cells #[.int .i64 u, .int .i64 v, .bool c] T)) := by
  have e0 : (W.alloc (.cells #[.int .i64 x, .int .i64 y, .bool b] T)).heap.size = W.heap.size + 1 := by simp
  have k1 := At3.new T (W.alloc (.cells #[.int .i64 x, .int .i64 y, .bool b] T)) u v c
  rw [e0] at k1
  exact ⟨(At3.new T W x y b).on (below_alloc1 _ _), k1, below_alloc2 W _ _⟩
end Go.Proofs.Ytieophdbhnpncaa.Dom
namespace Go.Proofs.Ytieophdbhnpncaa.Flp
set_option linter.unusedVariables false
set_option linter.unusedSimpArgs false
set_option maxRecDepth 100000
open Go.RowKit Go.Proofs.Ytieophdbhnpncaa.Base Go.Proofs.Ytieophdbhnpncaa.Pure Go.Proofs.Ytieophdbhnpncaa.Cell Go.Proofs.Ytieophdbhnpncaa.Dom Go.Proofs.Ytieophdbhnpncaa.Dms Go.Proofs.Ytieophdbhnpncaa.Til Go.Joins

/-- a domino as a value. -/
abbrev dmV (d : Dm) : Value := .agg #[.int .i64 d.1, .int .i64 d.2.1, .bool d.2.2]
/-- a function returns two dominoes. -/
def Dm2 (d f : Dm) (w : World) (e : Ending) (w' : World) : Prop := e = .returned (.tuple #[dmV d, dmV f]) ∧ Below w.heap.size w w'
theorem mkDm2 {d f : Dm} {w W : World} (hb : Below w.heap.size w W) : Dm2 d f w (.returned (.tuple #[dmV d, dmV f])) W := ⟨rfl, hb⟩
/-- the cell's box and the two dominoes that are returned. -/
def Two (w : World) (x y : Int) (d f : Dm) (W : World) : Prop := Below w.heap.size w W ∧ At2 W w.heap.size x y ∧ At3 63 W (w.heap.size + 1) d.1 d.2.1 d.2.2 ∧ At3 63 W (w.heap.size + 1 + 1) f.1 f.2.1 f.2.2
section
variable {w W W' : World} {x y : Int} {d f : Dm}
theorem Two.drew (h : Two w x y d f W) : Two w x y d f W.drew := ⟨h.1.drew, h.2⟩
theorem Two.put1 (h : Two w x y d f W) (a b : Int) (c : Bool) : Two w x y (a, b, c) f (((W.setCell ⟨w.heap.size + 1, 0, none⟩ (.int .i64 a)).setCell ⟨w.heap.size + 1, 1, none⟩ (.int .i64 b)).setCell ⟨w.heap.size + 1, 2, none⟩ (.bool c)) :=
  ⟨((h.1.setCell (p := ⟨w.heap.size + 1, 0, none⟩) (by show w.heap.size ≤ w.heap.size + 1; omega) _).setCell (p := ⟨w.heap.size + 1, 1, none⟩) (by show w.heap.size ≤ w.heap.size + 1; omega) _).setCell (p := ⟨w.heap.size + 1, 2, none⟩) (by show w.heap.size ≤ w.heap.size + 1; omega) _,
    At2.far3 h.2.1 (by omega), At3.put h.2.2.1, At3.far3 h.2.2.2 (by omega)⟩
theorem Two.put2 (h : Two w x y d f W) (a b : Int) (c : Bool) : Two w x y d (a, b, c) (((W.setCell ⟨w.heap.size + 1 + 1, 0, none⟩ (.int .i64 a)).setCell ⟨w.heap.size + 1 + 1, 1, none⟩ (.int .i64 b)).setCell ⟨w.heap.size + 1 + 1, 2, none⟩ (.bool c)) :=
  ⟨((h.1.setCell (p := ⟨w.heap.size + 1 + 1, 0, none⟩) (by show w.heap.size ≤ w.heap.size + 1 + 1; omega) _).setCell (p := ⟨w.heap.size + 1 + 1, 1, none⟩) (by show w.heap.size ≤ w.heap.size + 1 + 1; omega) _).setCell (p := ⟨w.heap.size + 1 + 1, 2, none⟩) (by show w.heap.size ≤ w.heap.size + 1 + 1; omega) _,
    At2.far3 h.2.1 (by omega), At3.far3 h.2.2.1 (by omega), At3.put h.2.2.2⟩
end
theorem two_start (x y : Int) (w : World) : Two w x y (0, 0, false) (0, 0, false) (((w.alloc (.cells #[.int .i64 x, .int .i64 y] 54)).alloc (.cells #[.int .i64 0, .int .i64 0, .bool false] 63)).alloc (.cells #[.int .i64 0, .int .i64 0, .bool false] 63)) := by
  have e0 : (w.alloc (.cells #[.int .i64 x, .int .i64 y] 54)).heap.size = w.heap.size + 1 := by simp
  have k0 := At2.new w x y
  have b0 := below_alloc1 w (.cells #[.int .i64 x, .int .i64 y] 54)
  generalize w.alloc (.cells #[.int .i64 x, .int .i64 y] 54) = W at e0 k0 b0 ⊢
  obtain ⟨k1, k2, k3⟩ := at3_two 63 W 0 0 false 0 0 false
  rw [e0] at k1 k2
  exact ⟨b0.trans (k3.mono (by omega)), k0.on k3, k1, k2⟩
/-- where a domino stands, or less than nothing. -/
def HasP (L : List Dm) (d : Dm) (w : World) (e : Ending) (w' : World) : Prop := ∃ r : Int, e = .returned (.int .i64 r) ∧ decide (0 ≤ r) = decide (d ∈ L) ∧ Below w.heap.size w w'
theorem mkHas {L : List Dm} {d : Dm} {w W : World} {r : Int} (h : decide (0 ≤ r) = decide (d ∈ L)) (hb : Below w.heap.size w W) : HasP L d w (.returned (.int .i64 r)) W := ⟨r, rfl, h, hb⟩
theorem take_no {L : List Dm} {k : Nat} {d : Dm} (hk : k < L.length) (h : d ∉ L.take k) (h2 : L[k] ≠ d) : d ∉ L.take (k + 1) := by
  rw [List.take_add_one, List.getElem?_eq_getElem hk, List.mem_append]
  rintro (q | q)
  · exact h q
  · simp at q; exact h2 q.symm
/-- a domino's box. -/
def DB (w : World) (d : Dm) (W : World) : Prop := Below w.heap.size w W ∧ At3 63 W w.heap.size d.1 d.2.1 d.2.2
theorem db_start (d : Dm) (w : World) : DB w d (w.alloc (.cells #[.int .i64 d.1, .int .i64 d.2.1, .bool d.2.2] 63)) := ⟨below_alloc1 w _, At3.new _ w _ _ _⟩
theorem DB.on {w W W' : World} {d : Dm} (h : DB w d W) (hb : Below W.heap.size W W') : DB w d W' := ⟨h.1.trans (hb.mono h.1.size), At3.on h.2 hb⟩
set_option maxHeartbeats 2000000 in
theorem sHas (w : World) (A : Option Addr) (n cap B : Nat) (L : List Dm) (hL : L.length = n) (hn : (n : Int) ≤ 9223372036854775807) (h : RowM w B A L) (hB : B ≤ w.heap.size) (d : Dm) :
    Calls Try.prog 37 #[.slice A n cap, dmV d] w (HasP L d w) := by
  obtain ⟨b, off, hA, hc⟩ := h.at
  have HA := Lib.hid hA
  have HC := Lib.hid hc
  have HL := Lib.hid hL
  have T0 := Lib.hid (db_start d w)
  obtain ⟨x, y, c⟩ := d
  clear hA hc hL h
  go_enter Try.func37, Try.ntmps37
  go_wp2_with fail
  go_loopw [5] (fun i wr => ∃ k : Nat, k ≤ n ∧ i = .int .i64 k ∧ DB w (x, y, c) wr ∧ Hid ((x, y, c) ∉ L.take k)) (fun i _ => n - (intOf i).toNat)
  case atStart => exact ⟨0, Nat.zero_le _, rfl, T0.out, Lib.hid (by simp)⟩
  case round =>
    clear T0
    obtain ⟨k, hk, rfl, hK, HN⟩ := hrel
    by_cases hlt : k < n
    · have hkL : k < L.length := by rw [HL.out]; exact hlt
      obtain ⟨rfl, hbB⟩ := HA.out (by omega)
      obtain ⟨e0, e1, e2⟩ := HC.out k hkL
      have d0 := (hK.1.cell (p := ⟨b, off + k * 3, none⟩) (by show b < _; omega)).trans e0
      have d1 := (hK.1.cell (p := ⟨b, off + k * 3 + 1, none⟩) (by show b < _; omega)).trans e1
      have d2 := (hK.1.cell (p := ⟨b, off + k * 3 + 2, none⟩) (by show b < _; omega)).trans e2
      have c0 := At3.c0 hK.2
      have c1 := At3.c1 hK.2
      have c2 := At3.c2 hK.2
      have HX := Lib.hid (fun hne => take_no hkL HN.out hne)
      have HIn := Lib.hid (fun (he : L[k] = (x, y, c)) => show (x, y, c) ∈ L from he ▸ List.getElem_mem hkL)
      generalize L[k] = p at d0 d1 d2 HX HIn
      obtain ⟨u, v, a⟩ := p
      simp only at d0 d1 d2 c0 c1 c2
      have HK := Lib.hid hK
      clear e0 e1 e2 HN hK
      by_cases q : u = x ∧ v = y ∧ a = c
      · obtain ⟨rfl, rfl, rfl⟩ := q
        have HI := Lib.hid (HIn.out rfl)
        clear HX HIn
        have huu : (u == u) = true := by simp
        have hvv : (v == v) = true := by simp
        have haa : (a == a) = true := by simp
        go_wp2_with fail
        go_quiet (fail)
        go_wp2
        go_ret
        exact mkHas (by rw [decide_eq_true HI.out]; exact decide_eq_true (by omega)) (drewBelow HK.out.1 _)
      · have HY := Lib.hid (HX.out (fun e => by injection e with e1 e2; injection e2 with e2 e3; exact q ⟨e1, e2, e3⟩))
        clear HX HIn
        by_cases q1 : u = x
        · subst q1
          have huu : (u == u) = true := by simp
          by_cases q2 : v = y
          · subst q2
            have hvv : (v == v) = true := by simp
            have haf : (a == c) = false := by rw [beq_eq_false_iff_ne]; exact fun e => q ⟨rfl, rfl, e⟩
            clear q
            go_wp2_with fail
            go_quiet (fail)
            go_wp2
            go_roundw
            case rel => exact ⟨k + 1, by omega, by go_num, HK.out.on (drewBelow (Below.refl _ _) _), HY⟩
            case measure => (simp [intOf] <;> omega)
          · have hvf : (v == y) = false := by rw [beq_eq_false_iff_ne]; exact q2
            clear q
            go_wp2_with fail
            go_quiet (fail)
            go_wp2
            go_roundw
            case rel => exact ⟨k + 1, by omega, by go_num, HK.out.on (drewBelow (Below.refl _ _) _), HY⟩
            case measure => (simp [intOf] <;> omega)
        · have huf : (u == x) = false := by rw [beq_eq_false_iff_ne]; exact q1
          clear q
          go_wp2_with fail
          go_quiet (fail)
          go_wp2
          go_roundw
          case rel => exact ⟨k + 1, by omega, by go_num, HK.out.on (drewBelow (Below.refl _ _) _), HY⟩
          case measure => (simp [intOf] <;> omega)
    · obtain rfl : k = n := by omega
      have HB := Lib.hid hK.1
      have HE := Lib.hid (show (x, y, c) ∉ L by have := HN.out; rw [List.take_of_length_le (by rw [HL.out]; exact Nat.le_refl _)] at this; exact this)
      clear HN hK
      go_wp2
      go_ret
      exact mkHas (by rw [decide_eq_false HE.out]; rfl) HB.out
/-- a cell's box. -/
def CB (w : World) (x y : Int) (W : World) : Prop := Below w.heap.size w W ∧ At2 W w.heap.size x y
theorem cb_start (x y : Int) (w : World) : CB w x y (w.alloc (.cells #[.int .i64 x, .int .i64 y] 54)) := ⟨below_alloc1 w _, At2.new w x y⟩
theorem CB.on {w W W' : World} {x y : Int} (h : CB w x y W) (hb : Below W.heap.size W W') : CB w x y W' := ⟨h.1.trans (hb.mono h.1.size), h.2.on hb⟩
theorem CB.drew {w W : World} {x y : Int} (h : CB w x y W) : CB w x y W.drew := ⟨h.1.drew, h.2⟩
theorem kind_out {L : List Dm} {x y : Int} (h : in6 x y = false) : kindN L x y = 0 := by unfold kindN; rw [h]; rfl
theorem kind_at {L : List Dm} {x y : Int} (h : in6 x y = true) : kindN L x y = if has2 L x y false then 1 else if has2 L x y true then 2 else 0 := by unfold kindN; rw [if_pos h]
/-- neither pair before the j-th. -/
def NoP (L : List Dm) (x y : Int) (j : Nat) : Prop := (1 < j → has2 L x y false = false) ∧ (2 < j → has2 L x y true = false)
theorem nop_step {L : List Dm} {x y : Int} {j : Nat} (h : NoP L x y j) (h1 : 1 ≤ j) (h2 : j ≤ 2) (hn : has2 L x y (decide (j = 2)) = false) : NoP L x y (j + 1) := by
  obtain ⟨a, b⟩ := h
  by_cases q : j = 1
  · subst q; exact ⟨fun _ => hn, fun h => by omega⟩
  · obtain rfl : j = 2 := by omega
    exact ⟨fun _ => a (by omega), fun _ => hn⟩
theorem nop_hit {L : List Dm} {x y : Int} {j : Nat} (h6 : in6 x y = true) (h : NoP L x y j) (h1 : 1 ≤ j) (h2 : j ≤ 2) (hy : has2 L x y (decide (j = 2)) = true) : kindN L x y = j := by
  rw [kind_at h6]
  by_cases q : j = 1
  · subst q
    have hy' : has2 L x y false = true := hy
    rw [if_pos hy']
  · obtain rfl : j = 2 := by omega
    have hy' : has2 L x y true = true := hy
    rw [h.1 (by omega), if_neg (by simp), if_pos hy']
theorem nop_end {L : List Dm} {x y : Int} (h6 : in6 x y = true) (h : NoP L x y 3) : kindN L x y = 0 := by
  rw [kind_at h6, h.1 (by omega), h.2 (by omega)]; rfl
end Go.Proofs.Ytieophdbhnpncaa.Flp
