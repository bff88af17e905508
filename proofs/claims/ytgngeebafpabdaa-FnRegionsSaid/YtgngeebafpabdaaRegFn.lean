/- The law FnRegions returns true for every code: a region has the cells that its text shows, and a cell can be put in and taken out. -/
import Derived.Test.YtgngeebafpabdaaDrawR
import Derived.Test.YtgngeebafpabdaaRegPu
import Derived.Test.YtgngeebafpabdaaRegTx
import Derived.Test.YtgngeebafpabdaaRegBox
import Derived.Test.YtgngeebafpabdaaMark
namespace Go.Proofs.Ytgngeebafpabdaa.Regions
set_option linter.unusedVariables false
set_option linter.unusedSimpArgs false
open Go.RowKit Go.Proofs.Ytgngeebafpabdaa.Base Go.Proofs.Ytgngeebafpabdaa.Pure Go.Proofs.Ytgngeebafpabdaa.Cell Go.Proofs.Ytgngeebafpabdaa.Cels Go.Proofs.Ytgngeebafpabdaa.Reg Go.Proofs.Ytgngeebafpabdaa.Draw Go.Joins

/-- a region in a box. -/
def Bx (W : World) (p : Nat) (A : Option Addr) (n c : Nat) (xs : List Int) : Prop := W.heap[p]? = some (.cells #[.slice A n c] 26) ∧ RowB W W.heap.size A xs
theorem Bx.on {W W' : World} {p : Nat} {A : Option Addr} {n c : Nat} {xs : List Int} (h : Bx W p A n c xs) (hb : Below W.heap.size W W') : Bx W' p A n c xs :=
  ⟨(hb.block p (Array.getElem?_eq_some_iff.1 h.1).1).trans h.1, (h.2.below hb (Nat.le_refl _)).mono hb.size⟩
theorem Bx.cell {W : World} {p : Nat} {A : Option Addr} {n c : Nat} {xs : List Int} (h : Bx W p A n c xs) : W.cell? ⟨p, 0, none⟩ = some (.slice A n c) := (cellAt h.1 0).1.trans rfl
theorem bx_new {W : World} {B : Nat} {A : Option Addr} {n c : Nat} {xs : List Int} (h : W.ownsRow B 3 1 (.slice A n c) n (ints xs)) : Bx (W.alloc (.cells #[.slice A n c] 26)) W.heap.size A n c xs :=
  ⟨heap_alloc_new W _, ((rowB_own h).below (below_alloc1 W _) (Nat.le_refl _)).mono (below_alloc1 W _).size⟩
/-- a cell in a box. -/
def Cx (W : World) (p : Nat) (x y : Int) : Prop := W.heap[p]? = some (.cells #[.int .i64 x, .int .i64 y] 29)
theorem Cx.on {W W' : World} {p : Nat} {x y : Int} (h : Cx W p x y) (hb : Below W.heap.size W W') : Cx W' p x y := (hb.block p (Array.getElem?_eq_some_iff.1 h).1).trans h
theorem Cx.cells {W : World} {p : Nat} {x y : Int} (h : Cx W p x y) : W.cell? ⟨p, 0, none⟩ = some (.int .i64 x) ∧ W.cell? ⟨p, 1, none⟩ = some (.int .i64 y) := ⟨(cellAt h 0).1.trans rfl, (cellAt h 1).1.trans rfl⟩
/-- what the law holds: the region, the cell, the region with the cell, the one without it. -/
def FL (w : World) (pr : Nat) (Ar : Option Addr) (n cr : Nat) (xs : List Int) (pc : Nat) (x y : Int) (pa : Nat) (Aa : Option Addr) (ca : Nat) (ya : List Int) (pb : Nat) (Ab : Option Addr) (cb : Nat) (yb : List Int) (W : World) : Prop :=
  Below w.heap.size w W ∧ Bx W pr Ar n cr xs ∧ Cx W pc x y ∧ Bx W pa Aa 8 ca ya ∧ Bx W pb Ab 8 cb yb
theorem FL.on {w W W' : World} {pr : Nat} {Ar : Option Addr} {n cr : Nat} {xs : List Int} {pc : Nat} {x y : Int} {pa : Nat} {Aa : Option Addr} {ca : Nat} {ya : List Int} {pb : Nat} {Ab : Option Addr} {cb : Nat} {yb : List Int}
    (h : FL w pr Ar n cr xs pc x y pa Aa ca ya pb Ab cb yb W) (hb : Below W.heap.size W W') : FL w pr Ar n cr xs pc x y pa Aa ca ya pb Ab cb yb W' :=
  ⟨h.1.trans (hb.mono h.1.size), h.2.1.on hb, h.2.2.1.on hb, h.2.2.2.1.on hb, h.2.2.2.2.on hb⟩
theorem rd_at {w W : World} {A : Option Addr} {len : Nat} (h : Rd w w.heap.size A len) (hb : Below w.heap.size w W) : Rd W w.heap.size A len := h.below hb

/-- the lines of the region's text. -/
def ST (W : World) (b off n : Nat) (xs : List Int) : Prop := ∀ j, j < n → b < W.heap.size ∧ W.cell? ⟨b, off + j, none⟩ = some (.string (rowS (rowD xs j)))
theorem ST.on {W W' : World} {b off n : Nat} {xs : List Int} (h : ST W b off n xs) (hb : Below W.heap.size W W') : ST W' b off n xs :=
  fun j hj => ⟨Nat.lt_of_lt_of_le (h j hj).1 hb.size, (hb.cell (p := ⟨b, off + j, none⟩) (h j hj).1).trans (h j hj).2⟩
theorem st_own {W : World} {base n c : Nat} {A : Option Addr} {xs : List Int} (hx : xs.length = n) (h : W.ownsRow base 9 1 (.slice A n c) n ((xs.map rowS).map Value.string)) : ∃ b off : Nat, (0 < n → A = some ⟨b, off, none⟩) ∧ ST W b off n xs := by
  obtain ⟨b, off, hA, hc⟩ := Go.Proofs.Ytgngeebafpabdaa.Mark.rowAt_own h
  have hl : ((xs.map rowS).map Value.string).length = n := by rw [List.length_map, List.length_map]; exact hx
  rw [hl] at hA
  refine ⟨b, off, fun h0 => (hA h0).1, fun j hj => ⟨(hA (by omega)).2, hc j _ ?_⟩⟩
  rw [List.getElem?_map, List.getElem?_map, List.getElem?_eq_getElem (by omega), rowD_at (List.getElem?_eq_getElem (l := xs) (by omega))]
  rfl
/-- what the loops hold. -/
def PL (w : World) (pr : Nat) (Ar : Option Addr) (n cr : Nat) (xs : List Int) (pc : Nat) (x y : Int) (pa : Nat) (Aa : Option Addr) (ca : Nat) (ya : List Int) (pb : Nat) (Ab : Option Addr) (cb : Nat) (yb : List Int) (b off : Nat) (W : World) : Prop :=
  FL w pr Ar n cr xs pc x y pa Aa ca ya pb Ab cb yb W ∧ ST W b off n xs

set_option maxRecDepth 100000 in
set_option maxHeartbeats 8000000 in
theorem regions_law (A : Option Addr) (len cap : Nat) (zs : List Int) (w : World) (h0 : IsRow .u8 w A len cap zs) :
    Calls Try.prog 3 #[.slice A len cap] w fun e w' => e = .returned (.bool true) ∧ Below w.heap.size w w' := by
  have hlen := row_len h0
  by_cases hbig : (1048576 : Int) < (len : Int)
  · go_enter Try.func3, Try.ntmps3
    go_wp2_with fail
    refine (big w A len cap hlen).mono ?_
    rintro e w' ⟨rfl, rfl⟩
    go_wp2
    go_ret
    exact ⟨rfl, Below.refl _ _⟩
  · have HC := Lib.hid (coded_of_row h0 (by omega))
    have HA0 := Lib.hid (fun W (hb : Below w.heap.size w W) => at0 W A len cap w.heap.size HC.out.1 (rd_at HC.out.2 hb))
    have HA1 := Lib.hid (fun W (hb : Below w.heap.size w W) => at1 W A len cap w.heap.size HC.out.1 (rd_at HC.out.2 hb))
    have HA2 := Lib.hid (fun W (hb : Below w.heap.size w W) => at2 W A len cap w.heap.size HC.out.1 (rd_at HC.out.2 hb))
    clear h0
    go_enter Try.func3, Try.ntmps3
    go_wp2_with fail
    refine (big w A len cap hlen).mono ?_
    rintro e w' ⟨rfl, rfl⟩
    go_wp2_with fail
    refine (drawRegion w A len cap HC.out).mono ?_
    rintro e w1 ⟨xs, Ar, n, cr, HO, HX, rfl, hown, hb1⟩
    have hn8 : n ≤ 8 := by have := HO.out.1; have := HX.out; omega
    have HCr := Lib.hid (own_none hown)
    have hca := own_none hown
    have R0 := Lib.hid (bx_new hown)
    have HB0 := Lib.hid (hb1.trans ((below_alloc1 w1 (.cells #[.slice Ar n cr] 26)).mono hb1.size))
    clear hown hb1 hca
    go_wp2_with fail
    have R1 := R0.out
    have HB1 := Lib.hid HB0.out
    clear R0 HB0
    generalize w1.alloc (.cells #[.slice Ar n cr] 26) = W1 at R1 HB1 ⊢
    generalize w1.heap.size = pr at R1 ⊢
    refine (HA0.out _ HB1.out).mono ?_
    rintro e w2 ⟨x0, ⟨hx0, hx1⟩, rfl, rfl⟩
    obtain ⟨k, hk, hk64⟩ : ∃ k : Nat, x0 % 64 = (k : Int) ∧ k < 64 := ⟨(x0 % 64).toNat, by omega, by omega⟩
    clear HA0
    go_wp2_with fail
    refine (sCellAt (k : Int) _).mono ?_
    rintro e w3 ⟨rfl, hb3⟩
    obtain ⟨hax, hay⟩ := at_nat hk64
    rw [hax, hay]
    obtain ⟨x, hx⟩ : ∃ x, x = k % 8 := ⟨_, rfl⟩
    obtain ⟨y, hy⟩ : ∃ y, y = k / 8 := ⟨_, rfl⟩
    have hx8 : x < 8 := by omega
    have hy8 : y < 8 := by omega
    rw [← hx, ← hy]
    clear hax hay hx hy hk64
    have ho := HO.out
    have ho2 := ok_with ho hx8 hy8 true
    have HW1 := Lib.hid (fun W (hr : RowB W W.heap.size Ar xs) => (show Calls Try.prog 16 #[.agg #[.slice Ar n cr], .agg #[.int .i64 (x : Int), .int .i64 (y : Int)], .bool true] W (WithPost (withR xs x y true) 8 true W) from by
      have hh := iWithCell W Ar n cr _ xs HX.out (by omega) hr (Nat.le_refl _) HCr.out (x : Int) (y : Int) true
      obtain ⟨e1, e2⟩ := withX_in ho hx8 hy8 true
      rwa [e1, e2, withR_length ho.1] at hh))
    have HW2 := Lib.hid (fun W A c (hc : A = none → 8 = 0 ∧ c = 0) (hr : RowB W W.heap.size A (withR xs x y true)) => (show Calls Try.prog 16 #[.agg #[.slice A 8 c], .agg #[.int .i64 (x : Int), .int .i64 (y : Int)], .bool false] W (WithPost (withR (withR xs x y true) x y false) 8 true W) from by
      have hh := iWithCell W A 8 c _ (withR xs x y true) (withR_length ho.1 x y true) (by omega) hr (Nat.le_refl _) hc (x : Int) (y : Int) false
      obtain ⟨e1, e2⟩ := withX_in ho2 hx8 hy8 false
      rwa [e1, e2, withR_length ho2.1] at hh))
    have HHa := Lib.hid (fun W A c (hr : RowB W W.heap.size A (withR xs x y true)) => (show Calls Try.prog 20 #[.agg #[.slice A 8 c], .agg #[.int .i64 (x : Int), .int .i64 (y : Int)]] W (Bol true W) from by
      have hh := iHasCell W A 8 c _ (withR xs x y true) (withR_length ho.1 x y true) (by omega) hr (Nat.le_refl _) (x : Int) (y : Int)
      rwa [has_put ho hx8 hy8 true] at hh))
    have HHb := Lib.hid (fun W A c (hr : RowB W W.heap.size A (withR (withR xs x y true) x y false)) => (show Calls Try.prog 20 #[.agg #[.slice A 8 c], .agg #[.int .i64 (x : Int), .int .i64 (y : Int)]] W (Bol false W) from by
      have hh := iHasCell W A 8 c _ (withR (withR xs x y true) x y false) (withR_length ho2.1 x y false) (by omega) hr (Nat.le_refl _) (x : Int) (y : Int)
      rwa [has_put ho2 hx8 hy8 false] at hh))
    have HHr := Lib.hid (fun W (hr : RowB W W.heap.size Ar xs) => iHasCell W Ar n cr _ xs HX.out (by omega) hr (Nat.le_refl _) (x : Int) (y : Int))
    have HSa := Lib.hid (fun W A c (hr : RowB W W.heap.size Ar xs) (ha : RowB W W.heap.size A (withR xs x y true)) => (show Calls Try.prog 21 #[.agg #[.slice Ar n cr], .agg #[.slice A 8 c]] W (Bol (hasB xs (x : Int) (y : Int)) W) from by
      have hh := iSameCells W Ar n cr _ xs HX.out (by omega) hr (Nat.le_refl _) A 8 c _ (withR xs x y true) (withR_length ho.1 x y true) (by omega) ha (Nat.le_refl _)
      rwa [same_put ho hx8 hy8] at hh))
    have HSb := Lib.hid (fun W A c (hr : RowB W W.heap.size Ar xs) (ha : RowB W W.heap.size A (withR (withR xs x y true) x y false)) => (show Calls Try.prog 21 #[.agg #[.slice Ar n cr], .agg #[.slice A 8 c]] W (Bol (!hasB xs (x : Int) (y : Int)) W) from by
      have hh := iSameCells W Ar n cr _ xs HX.out (by omega) hr (Nat.le_refl _) A 8 c _ (withR (withR xs x y true) x y false) (withR_length ho2.1 x y false) (by omega) ha (Nat.le_refl _)
      rwa [same_taken ho hx8 hy8] at hh))
    have HRg := Lib.hid (fun W (hr : RowB W W.heap.size Ar xs) => (show Calls Try.prog 24 #[.agg #[.slice Ar n cr]] W (Bol true W) from by
      have hh := iRegionOk W Ar n cr _ xs HX.out (by omega) hr (Nat.le_refl _)
      rwa [okRB_of ho] at hh))
    have HCt := Lib.hid (fun W (hr : RowB W W.heap.size Ar xs) => iCountCells W Ar n cr _ xs HX.out (by omega) hr (Nat.le_refl _))
    have HCl := Lib.hid (fun W (hr : RowB W W.heap.size Ar xs) => iCellsOf W Ar n cr _ xs HX.out (by omega) hr (Nat.le_refl _))
    have HLN := Lib.hid (show ((cellsR xs).length : Int) = countR xs from rfl)
    have HTx := Lib.hid (fun W (hr : RowB W W.heap.size Ar xs) => (show Calls Try.prog 18 #[.agg #[.slice Ar n cr]] W (StrPost (xs.map rowS) n W) from by
      have hh := iRegionText W Ar n cr _ xs HX.out (by omega) hr (Nat.le_refl _)
      rwa [textR_ok ho, List.length_map, HX.out] at hh))
    have HHc := Lib.hid (fun (y' x' : Nat) (hy' : y' < n) (hx' : x' < 8) W (hr : RowB W W.heap.size Ar xs) => (show Calls Try.prog 20 #[.agg #[.slice Ar n cr], .agg #[.int .i64 (x' : Int), .int .i64 (y' : Int)]] W (Bol (bitB (rowD xs y') x') W) from by
      have hh := iHasCell W Ar n cr _ xs HX.out (by omega) hr (Nat.le_refl _) (x' : Int) (y' : Int)
      rwa [has_at ho hx' (by omega)] at hh))
    have HMk := Lib.hid (show marksTo xs (n * 8) = countR xs by rw [← HX.out]; exact marks_all ho)
    have HML := Lib.hid (fun (y' x' : Nat) (hx' : x' < 8) => (fun (h : bitB (rowD xs y') x' = true) => marks_yes (xs := xs) hx' h))
    have HMN := Lib.hid (fun (y' x' : Nat) (hx' : x' < 8) => (fun (h : bitB (rowD xs y') x' = false) => marks_no (xs := xs) hx' h))
    have HMB := Lib.hid (fun k => marks_bound xs k)
    have HM0 := Lib.hid (show marksTo xs 0 = 0 from rfl)
    generalize withR (withR xs x y true) x y false = yb at HW2 HHb HSb
    generalize withR xs x y true = ya at HW1 HW2 HHa HSa
    generalize hasB xs (x : Int) (y : Int) = hb at HHr HSa HSb
    generalize countR xs = N at HCt HLN HMk
    generalize cellsR xs = L at HCl HLN
    have R2 := R1.on hb3
    have HB2 := Lib.hid (HB1.out.trans (hb3.mono HB1.out.size))
    have c0 : ∀ o, (w3.alloc o).cell? ⟨pr, 0, none⟩ = some (.slice Ar n cr) := fun o => (R2.on (below_alloc1 w3 o)).cell
    clear R1 HB1 hb3 ho ho2
    go_wp2_with fail
    clear c0
    have R3 := R2.on (below_alloc1 w3 (.cells #[.int .i64 (x : Int), .int .i64 (y : Int)] 29))
    have C3 : Cx (w3.alloc (.cells #[.int .i64 (x : Int), .int .i64 (y : Int)] 29)) w3.heap.size (x : Int) (y : Int) := heap_alloc_new w3 _
    have HB3 := Lib.hid (HB2.out.trans ((below_alloc1 w3 (.cells #[.int .i64 (x : Int), .int .i64 (y : Int)] 29)).mono HB2.out.size))
    clear R2 HB2
    generalize w3.alloc (.cells #[.int .i64 (x : Int), .int .i64 (y : Int)] 29) = W3 at R3 C3 HB3 ⊢
    generalize w3.heap.size = pc at C3 ⊢
    refine (HW1.out _ R3.2).mono ?_
    rintro e w4 ⟨Aa, ca, rfl, hown, hb4⟩
    have R4 := R3.on hb4
    have C4 := C3.on hb4
    have HB4 := Lib.hid (HB3.out.trans (hb4.mono HB3.out.size))
    have A4 := Lib.hid (bx_new hown)
    have HCa := Lib.hid (own_none hown)
    have c0 : ∀ o, (w4.alloc o).cell? ⟨pc, 0, none⟩ = some (.int .i64 (x : Int)) := fun o => (C4.on (below_alloc1 w4 o)).cells.1
    have c1 : ∀ o, (w4.alloc o).cell? ⟨pc, 1, none⟩ = some (.int .i64 (y : Int)) := fun o => (C4.on (below_alloc1 w4 o)).cells.2
    clear R3 C3 HB3 hown hb4 HW1
    go_wp2_with fail
    clear c0 c1
    have R5 := R4.on (below_alloc1 w4 (.cells #[.slice Aa 8 ca] 26))
    have C5 := C4.on (below_alloc1 w4 (.cells #[.slice Aa 8 ca] 26))
    have HB5 := Lib.hid (HB4.out.trans ((below_alloc1 w4 (.cells #[.slice Aa 8 ca] 26)).mono HB4.out.size))
    have A5 := A4.out
    clear R4 C4 HB4 A4
    generalize w4.alloc (.cells #[.slice Aa 8 ca] 26) = W4 at R5 C5 HB5 A5 ⊢
    generalize w4.heap.size = pa at A5 ⊢
    refine (HW2.out _ _ _ HCa.out A5.2).mono ?_
    rintro e w5 ⟨Ab, cb, rfl, hown, hb5⟩
    have R6 := R5.on hb5
    have C6 := C5.on hb5
    have A6 := A5.on hb5
    have HB6 := Lib.hid (HB5.out.trans (hb5.mono HB5.out.size))
    have B6 := Lib.hid (bx_new hown)
    have c0 : ∀ o, (w5.alloc o).cell? ⟨pr, 0, none⟩ = some (.slice Ar n cr) := fun o => (R6.on (below_alloc1 w5 o)).cell
    clear R5 C5 A5 HB5 hown hb5 HW2
    go_wp2_with fail
    clear c0
    have R7 := R6.on (below_alloc1 w5 (.cells #[.slice Ab 8 cb] 26))
    have C7 := C6.on (below_alloc1 w5 (.cells #[.slice Ab 8 cb] 26))
    have A7 := A6.on (below_alloc1 w5 (.cells #[.slice Ab 8 cb] 26))
    have HB7 := Lib.hid (HB6.out.trans ((below_alloc1 w5 (.cells #[.slice Ab 8 cb] 26)).mono HB6.out.size))
    have B7 := B6.out
    clear R6 C6 A6 HB6 B6
    generalize w5.alloc (.cells #[.slice Ab 8 cb] 26) = W5 at R7 C7 A7 HB7 B7 ⊢
    generalize w5.heap.size = pb at B7 ⊢
    have F7 : FL w pr Ar n cr xs pc (x : Int) (y : Int) pa Aa ca ya pb Ab cb yb W5 := ⟨HB7.out, R7, C7, A7, B7⟩
    clear R7 C7 A7 HB7 B7
    refine (HCt.out _ F7.2.1.2).mono ?_
    rintro e w6 ⟨rfl, hb6⟩
    have F8 := F7.on hb6
    clear F7 hb6
    have c0 := F8.2.1.cell
    go_wp2_with fail
    refine (HTx.out _ F8.2.1.2).mono ?_
    rintro e w7 ⟨At, ct, rfl, hown, hb7⟩
    have F9 := F8.on hb7
    have HO7 := Lib.hid hown
    clear F8 hb7 hown c0 HTx
    obtain ⟨b, off, hAt, hst⟩ := st_own HX.out HO7.out
    have HAt := Lib.hid hAt
    have HP9 := Lib.hid (show PL w pr Ar n cr xs pc (x : Int) (y : Int) pa Aa ca ya pb Ab cb yb b off w7 from ⟨F9, hst⟩)
    have HPon := Lib.hid (fun W W' (h : PL w pr Ar n cr xs pc (x : Int) (y : Int) pa Aa ca ya pb Ab cb yb b off W) (hb : Below W.heap.size W W') => (show PL w pr Ar n cr xs pc (x : Int) (y : Int) pa Aa ca ya pb Ab cb yb b off W' from ⟨h.1.on hb, h.2.on hb⟩))
    have HPf := Lib.hid (fun W (h : PL w pr Ar n cr xs pc (x : Int) (y : Int) pa Aa ca ya pb Ab cb yb b off W) => (show (Below w.heap.size w W ∧ Bx W pr Ar n cr xs ∧ Cx W pc (x : Int) (y : Int) ∧ Bx W pa Aa 8 ca ya ∧ Bx W pb Ab 8 cb yb) ∧ ST W b off n xs from h))
    generalize PL w pr Ar n cr xs pc (x : Int) (y : Int) pa Aa ca ya pb Ab cb yb b off = P at HP9 HPon HPf
    have HX8 := Lib.hid (And.intro hx8 hy8)
    have HK := Lib.hid (And.intro hk (And.intro hx0 hx1))
    clear hAt hst F9 HO7 hx8 hy8 hk hx0 hx1 HCa
    go_wp2_with fail
    go_loopw [12, 13] (fun m i wr => ∃ j : Nat, j ≤ n ∧ i = .int .i64 j ∧ m = .int .i64 (marksTo xs (j * 8)) ∧ P wr) (fun _ i _ => n - (intOf i).toNat)
    case atStart => exact ⟨0, Nat.zero_le _, rfl, by rw [Nat.zero_mul, HM0.out], HP9.out⟩
    case round =>
      clear HP9
      obtain ⟨j, hj, rfl, rfl, hP⟩ := hrel
      have hmb := HMB.out (j * 8)
      by_cases hlt : j < n
      · obtain rfl := HAt.out (by omega)
        have hc1 := ((HPf.out _ hP).2 j hlt).2
        have hts := rowS_size (rowD xs j)
        have HBy := Lib.hid (fun q hq h => rowS_byte (r := rowD xs j) (k := q) hq h)
        have HT9 := Lib.hid (fun W (hW : P W) => (HPf.out W hW).2 j hlt)
        generalize rowS (rowD xs j) = t at hc1 hts HBy HT9
        have hne : (((t.size : Nat) : Int) != 8) = false := by rw [hts]; rfl
        have HPw := Lib.hid hP
        clear hP
        go_wp2_with fail
        go_loopw [12, 14] (fun m i wr => ∃ q : Nat, q ≤ 8 ∧ i = .int .i64 q ∧ m = .int .i64 (marksTo xs (j * 8 + q)) ∧ P wr) (fun _ i _ => 8 - (intOf i).toNat)
        case atStart => exact ⟨0, Nat.zero_le _, rfl, rfl, HPw.out⟩
        case round =>
          clear HPw hc1 hne hmb
          obtain ⟨q, hq, rfl, rfl, hP⟩ := hrel
          obtain ⟨hm0, hm1⟩ := HMB.out (j * 8 + q)
          by_cases hlq : q < 8
          · have hc1 := (HT9.out _ hP).2
            have hcr := (HPf.out _ hP).1.2.1.cell
            have hqs : q < t.size := by omega
            have hby := HBy.out q hlq hqs
            have HPw := Lib.hid hP
            have HS := Lib.hid (fun W (h : P W) => (show P W ∧ W.cell? ⟨pr, 0, none⟩ = some (.slice Ar n cr) ∧ W.cell? ⟨b, off + j, none⟩ = some (.string t) from ⟨h, (HPf.out _ h).1.2.1.cell, (HT9.out _ h).2⟩))
            clear hP
            cases hbit : bitB (rowD xs j) q with
            | true =>
              have hby' : t[q] = 35 := by rw [hby, hbit]; rfl
              clear hby
              have HHq := Lib.hid (fun W (h : P W) => (show Calls Try.prog 20 #[.agg #[.slice Ar n cr], .agg #[.int .i64 (q : Int), .int .i64 (j : Int)]] W (Bol true W) from by
                have hh := HHc.out j q hlt hlq W (HPf.out _ h).1.2.1.2
                rwa [hbit] at hh))
              go_wp2_with fail
              refine (show Calls Try.prog 19 #[.bool true] wr (fun e w' => e = .returned (.int .i64 1) ∧ w' = wr) from btoi true wr).mono ?_
              rintro e w8 ⟨rfl, rfl⟩
              go_wp2_with fail
              refine wp_region_noPanic ?_
              refine wp_region_held_drew (S := (fun w' => P w' ∧ w'.cell? ⟨pr, 0, none⟩ = some (.slice Ar n cr) ∧ w'.cell? ⟨b, off + j, none⟩ = some (.string t))) (by kernel_rfl) (HS.out _ (HPon.out _ _ HPw.out (Below.refl _ _).drew)) (fun hHeld => ?_)
              refine wpAnyH_take (i := 0) (v := ?_) rfl (by kernel_rfl) (by kernel_rfl) (by kernel_rfl) (fun _ _ _ h => h) (Or.inl ⟨by rfl, ?_⟩) (by assumption) ?_
              rotate_left
              · (intro w' hS; (try dsimp only at hS); go_simp; try with_reducible rfl)
              try simp only [Act.put, List.getElem_toArray, List.getElem_cons_succ, List.getElem_cons_zero, List.setIfInBounds_toArray, List.set_cons_zero, List.set_cons_succ]
              refine wpAnyH_take (i := 1) (v := ?_) rfl (by kernel_rfl) (by kernel_rfl) (by kernel_rfl) (fun _ _ _ h => h) (Or.inl ⟨by rfl, ?_⟩) (by assumption) ?_
              rotate_left
              · (intro w' hS; (try dsimp only at hS); go_simp; try with_reducible rfl)
              try simp only [Act.put, List.getElem_toArray, List.getElem_cons_succ, List.getElem_cons_zero, List.setIfInBounds_toArray, List.set_cons_zero, List.set_cons_succ]
              refine wpAnyH_take (i := 2) (v := ?_) rfl (by kernel_rfl) (by kernel_rfl) (by kernel_rfl) (fun _ _ _ h => h) (Or.inl ⟨by rfl, ?_⟩) (by assumption) ?_
              rotate_left
              · (intro w' hS; (try dsimp only at hS); go_simp; try with_reducible rfl)
              try simp only [Act.put, List.getElem_toArray, List.getElem_cons_succ, List.getElem_cons_zero, List.setIfInBounds_toArray, List.set_cons_zero, List.set_cons_succ]
              refine wpAnyH_take (i := 3) (v := ?_) rfl (by kernel_rfl) (by kernel_rfl) (by kernel_rfl) (fun _ _ _ h => h) (Or.inl ⟨by rfl, ?_⟩) (by assumption) ?_
              rotate_left
              · (intro w' hS; (try dsimp only at hS); go_simp; try with_reducible rfl)
              try simp only [Act.put, List.getElem_toArray, List.getElem_cons_succ, List.getElem_cons_zero, List.setIfInBounds_toArray, List.set_cons_zero, List.set_cons_succ]
              refine wpAnyH_take (i := 4) (v := ?_) rfl (by kernel_rfl) (by kernel_rfl) (by kernel_rfl) (fun _ _ _ h => h) (Or.inl ⟨by rfl, ?_⟩) (by assumption) ?_
              rotate_left
              · (intro w' hS; (try dsimp only at hS); go_simp; try with_reducible rfl)
              try simp only [Act.put, List.getElem_toArray, List.getElem_cons_succ, List.getElem_cons_zero, List.setIfInBounds_toArray, List.set_cons_zero, List.set_cons_succ]
              refine wpAnyH_take (i := 5) (v := ?_) rfl (by kernel_rfl) (by kernel_rfl) (by kernel_rfl) (fun _ _ _ h => h) (Or.inl ⟨by rfl, ?_⟩) (by assumption) ?_
              rotate_left
              · (intro w' hS; (try dsimp only at hS); go_simp; try with_reducible rfl)
              try simp only [Act.put, List.getElem_toArray, List.getElem_cons_succ, List.getElem_cons_zero, List.setIfInBounds_toArray, List.set_cons_zero, List.set_cons_succ]
              refine wpAnyH_take (i := 6) (v := ?_) rfl (by kernel_rfl) (by kernel_rfl) (by kernel_rfl) (fun _ _ _ h => h) (Or.inl ⟨by rfl, ?_⟩) (by assumption) ?_
              rotate_left
              · (intro w' hS; (try dsimp only at hS); go_simp; try with_reducible rfl)
              try simp only [Act.put, List.getElem_toArray, List.getElem_cons_succ, List.getElem_cons_zero, List.setIfInBounds_toArray, List.set_cons_zero, List.set_cons_succ]
              refine wpAnyH_take (i := 7) (v := ?_) rfl (by kernel_rfl) (by kernel_rfl) (by kernel_rfl) (fun _ _ _ h => h) (Or.inl ⟨by rfl, ?_⟩) (by assumption) ?_
              rotate_left
              · (intro w' hS; (try dsimp only at hS); go_simp; try with_reducible rfl)
              try simp only [Act.put, List.getElem_toArray, List.getElem_cons_succ, List.getElem_cons_zero, List.setIfInBounds_toArray, List.set_cons_zero, List.set_cons_succ]
              refine wpAnyH_take (i := 8) (v := ?_) rfl (by kernel_rfl) (by kernel_rfl) (by kernel_rfl) (fun _ _ _ h => h) (Or.inl ⟨by rfl, ?_⟩) (by assumption) ?_
              rotate_left
              · (intro w' hS; (try dsimp only at hS); go_simp; try with_reducible rfl)
              try simp only [Act.put, List.getElem_toArray, List.getElem_cons_succ, List.getElem_cons_zero, List.setIfInBounds_toArray, List.set_cons_zero, List.set_cons_succ]
              refine wpAnyH_take (i := 9) (v := ?_) rfl (by kernel_rfl) (by kernel_rfl) (by kernel_rfl) (fun _ _ _ h => h) (Or.inl ⟨by rfl, ?_⟩) (by assumption) ?_
              rotate_left
              · (intro w' hS; (try dsimp only at hS); go_simp; try with_reducible rfl)
              try simp only [Act.put, List.getElem_toArray, List.getElem_cons_succ, List.getElem_cons_zero, List.setIfInBounds_toArray, List.set_cons_zero, List.set_cons_succ]
              refine wpAnyH_take (i := 10) (v := ?_) rfl (by kernel_rfl) (by kernel_rfl) (by kernel_rfl) (fun _ _ _ h => h) (Or.inl ⟨by rfl, ?_⟩) (by assumption) ?_
              rotate_left
              · (intro w' hS; (try dsimp only at hS); go_simp; try with_reducible rfl)
              try simp only [Act.put, List.getElem_toArray, List.getElem_cons_succ, List.getElem_cons_zero, List.setIfInBounds_toArray, List.set_cons_zero, List.set_cons_succ]
              refine wpAnyH_ready (rs := [11]) (by kernel_rfl) (by simp) ?_
              refine AllReadyH.cons rfl (fun K hK => ?_) AllReadyH.nil
              go_simp
              refine (HHq.out _ hHeld.1).mono ?_
              rintro e wx ⟨rfl, hbx⟩
              go_wp2_with fail
              refine hK.out _ _ (HS.out _ (HPon.out _ _ hHeld.1 hbx)) (fun hHeld => ?_)
              clear hK K
              try simp only [Act.put, List.getElem_toArray, List.getElem_cons_succ, List.getElem_cons_zero, List.setIfInBounds_toArray, List.set_cons_zero, List.set_cons_succ]
              refine wpAnyH_take (i := 12) (v := ?_) rfl (by kernel_rfl) (by kernel_rfl) (by kernel_rfl) (fun _ _ _ h => h) (Or.inl ⟨by rfl, ?_⟩) (by assumption) ?_
              rotate_left
              · (intro w' hS; (try dsimp only at hS); go_simp; try with_reducible rfl)
              try simp only [Act.put, List.getElem_toArray, List.getElem_cons_succ, List.getElem_cons_zero, List.setIfInBounds_toArray, List.set_cons_zero, List.set_cons_succ]
              refine wpAnyH_done (by kernel_rfl) ?_ _
              refine NoPanic.normal ?_
              have hend := hHeld.1
              clear hHeld
              go_wp2
              go_roundw
              case rel => exact ⟨q + 1, by omega, by go_num, by rw [HML.out j q hlq hbit], hend⟩
              case measure => (simp [intOf] <;> omega)
            | false =>
              have hby' : t[q] = 46 := by rw [hby, hbit]; rfl
              clear hby
              have HHq := Lib.hid (fun W (h : P W) => (show Calls Try.prog 20 #[.agg #[.slice Ar n cr], .agg #[.int .i64 (q : Int), .int .i64 (j : Int)]] W (Bol false W) from by
                have hh := HHc.out j q hlt hlq W (HPf.out _ h).1.2.1.2
                rwa [hbit] at hh))
              go_wp2_with fail
              refine (show Calls Try.prog 19 #[.bool false] wr (fun e w' => e = .returned (.int .i64 0) ∧ w' = wr) from btoi false wr).mono ?_
              rintro e w8 ⟨rfl, rfl⟩
              go_wp2_with fail
              refine wp_region_noPanic ?_
              refine wp_region_held_drew (S := (fun w' => P w' ∧ w'.cell? ⟨pr, 0, none⟩ = some (.slice Ar n cr) ∧ w'.cell? ⟨b, off + j, none⟩ = some (.string t))) (by kernel_rfl) (HS.out _ (HPon.out _ _ HPw.out (Below.refl _ _).drew)) (fun hHeld => ?_)
              refine wpAnyH_take (i := 0) (v := ?_) rfl (by kernel_rfl) (by kernel_rfl) (by kernel_rfl) (fun _ _ _ h => h) (Or.inl ⟨by rfl, ?_⟩) (by assumption) ?_
              rotate_left
              · (intro w' hS; (try dsimp only at hS); go_simp; try with_reducible rfl)
              try simp only [Act.put, List.getElem_toArray, List.getElem_cons_succ, List.getElem_cons_zero, List.setIfInBounds_toArray, List.set_cons_zero, List.set_cons_succ]
              refine wpAnyH_take (i := 1) (v := ?_) rfl (by kernel_rfl) (by kernel_rfl) (by kernel_rfl) (fun _ _ _ h => h) (Or.inl ⟨by rfl, ?_⟩) (by assumption) ?_
              rotate_left
              · (intro w' hS; (try dsimp only at hS); go_simp; try with_reducible rfl)
              try simp only [Act.put, List.getElem_toArray, List.getElem_cons_succ, List.getElem_cons_zero, List.setIfInBounds_toArray, List.set_cons_zero, List.set_cons_succ]
              refine wpAnyH_take (i := 2) (v := ?_) rfl (by kernel_rfl) (by kernel_rfl) (by kernel_rfl) (fun _ _ _ h => h) (Or.inl ⟨by rfl, ?_⟩) (by assumption) ?_
              rotate_left
              · (intro w' hS; (try dsimp only at hS); go_simp; try with_reducible rfl)
              try simp only [Act.put, List.getElem_toArray, List.getElem_cons_succ, List.getElem_cons_zero, List.setIfInBounds_toArray, List.set_cons_zero, List.set_cons_succ]
              refine wpAnyH_take (i := 3) (v := ?_) rfl (by kernel_rfl) (by kernel_rfl) (by kernel_rfl) (fun _ _ _ h => h) (Or.inl ⟨by rfl, ?_⟩) (by assumption) ?_
              rotate_left
              · (intro w' hS; (try dsimp only at hS); go_simp; try with_reducible rfl)
              try simp only [Act.put, List.getElem_toArray, List.getElem_cons_succ, List.getElem_cons_zero, List.setIfInBounds_toArray, List.set_cons_zero, List.set_cons_succ]
              refine wpAnyH_take (i := 4) (v := ?_) rfl (by kernel_rfl) (by kernel_rfl) (by kernel_rfl) (fun _ _ _ h => h) (Or.inl ⟨by rfl, ?_⟩) (by assumption) ?_
              rotate_left
              · (intro w' hS; (try dsimp only at hS); go_simp; try with_reducible rfl)
              try simp only [Act.put, List.getElem_toArray, List.getElem_cons_succ, List.getElem_cons_zero, List.setIfInBounds_toArray, List.set_cons_zero, List.set_cons_succ]
              refine wpAnyH_take (i := 5) (v := ?_) rfl (by kernel_rfl) (by kernel_rfl) (by kernel_rfl) (fun _ _ _ h => h) (Or.inl ⟨by rfl, ?_⟩) (by assumption) ?_
              rotate_left
              · (intro w' hS; (try dsimp only at hS); go_simp; try with_reducible rfl)
              try simp only [Act.put, List.getElem_toArray, List.getElem_cons_succ, List.getElem_cons_zero, List.setIfInBounds_toArray, List.set_cons_zero, List.set_cons_succ]
              refine wpAnyH_take (i := 6) (v := ?_) rfl (by kernel_rfl) (by kernel_rfl) (by kernel_rfl) (fun _ _ _ h => h) (Or.inl ⟨by rfl, ?_⟩) (by assumption) ?_
              rotate_left
              · (intro w' hS; (try dsimp only at hS); go_simp; try with_reducible rfl)
              try simp only [Act.put, List.getElem_toArray, List.getElem_cons_succ, List.getElem_cons_zero, List.setIfInBounds_toArray, List.set_cons_zero, List.set_cons_succ]
              refine wpAnyH_take (i := 7) (v := ?_) rfl (by kernel_rfl) (by kernel_rfl) (by kernel_rfl) (fun _ _ _ h => h) (Or.inl ⟨by rfl, ?_⟩) (by assumption) ?_
              rotate_left
              · (intro w' hS; (try dsimp only at hS); go_simp; try with_reducible rfl)
              try simp only [Act.put, List.getElem_toArray, List.getElem_cons_succ, List.getElem_cons_zero, List.setIfInBounds_toArray, List.set_cons_zero, List.set_cons_succ]
              refine wpAnyH_take (i := 8) (v := ?_) rfl (by kernel_rfl) (by kernel_rfl) (by kernel_rfl) (fun _ _ _ h => h) (Or.inl ⟨by rfl, ?_⟩) (by assumption) ?_
              rotate_left
              · (intro w' hS; (try dsimp only at hS); go_simp; try with_reducible rfl)
              try simp only [Act.put, List.getElem_toArray, List.getElem_cons_succ, List.getElem_cons_zero, List.setIfInBounds_toArray, List.set_cons_zero, List.set_cons_succ]
              refine wpAnyH_take (i := 9) (v := ?_) rfl (by kernel_rfl) (by kernel_rfl) (by kernel_rfl) (fun _ _ _ h => h) (Or.inl ⟨by rfl, ?_⟩) (by assumption) ?_
              rotate_left
              · (intro w' hS; (try dsimp only at hS); go_simp; try with_reducible rfl)
              try simp only [Act.put, List.getElem_toArray, List.getElem_cons_succ, List.getElem_cons_zero, List.setIfInBounds_toArray, List.set_cons_zero, List.set_cons_succ]
              refine wpAnyH_take (i := 10) (v := ?_) rfl (by kernel_rfl) (by kernel_rfl) (by kernel_rfl) (fun _ _ _ h => h) (Or.inl ⟨by rfl, ?_⟩) (by assumption) ?_
              rotate_left
              · (intro w' hS; (try dsimp only at hS); go_simp; try with_reducible rfl)
              try simp only [Act.put, List.getElem_toArray, List.getElem_cons_succ, List.getElem_cons_zero, List.setIfInBounds_toArray, List.set_cons_zero, List.set_cons_succ]
              refine wpAnyH_ready (rs := [11]) (by kernel_rfl) (by simp) ?_
              refine AllReadyH.cons rfl (fun K hK => ?_) AllReadyH.nil
              go_simp
              refine (HHq.out _ hHeld.1).mono ?_
              rintro e wx ⟨rfl, hbx⟩
              go_wp2_with fail
              refine hK.out _ _ (HS.out _ (HPon.out _ _ hHeld.1 hbx)) (fun hHeld => ?_)
              clear hK K
              try simp only [Act.put, List.getElem_toArray, List.getElem_cons_succ, List.getElem_cons_zero, List.setIfInBounds_toArray, List.set_cons_zero, List.set_cons_succ]
              refine wpAnyH_take (i := 12) (v := ?_) rfl (by kernel_rfl) (by kernel_rfl) (by kernel_rfl) (fun _ _ _ h => h) (Or.inl ⟨by rfl, ?_⟩) (by assumption) ?_
              rotate_left
              · (intro w' hS; (try dsimp only at hS); go_simp; try with_reducible rfl)
              try simp only [Act.put, List.getElem_toArray, List.getElem_cons_succ, List.getElem_cons_zero, List.setIfInBounds_toArray, List.set_cons_zero, List.set_cons_succ]
              refine wpAnyH_done (by kernel_rfl) ?_ _
              refine NoPanic.normal ?_
              have hend := hHeld.1
              clear hHeld
              go_wp2
              go_roundw
              case rel => exact ⟨q + 1, by omega, by go_num, by rw [HMN.out j q hlq hbit], hend⟩
              case measure => (simp [intOf] <;> omega)
          · obtain rfl : q = 8 := by omega
            have HPw := Lib.hid (show P wr from hP)
            have HM8 := Lib.hid (show j * 8 + 8 = (j + 1) * 8 by omega)
            clear hP
            go_wp2
            go_roundw
            case rel => exact ⟨j + 1, by omega, by go_num, by rw [HM8.out], HPw.out⟩
            case measure => (simp [intOf] <;> omega)
      · obtain rfl : j = n := by omega
        have eN := HLN.out
        subst eN
        have eM := HMk.out
        have hB0 := (HPf.out _ hP).1.1
        have HPw := Lib.hid hP
        rw [eM]
        clear hP eM hmb HMk HML HMN HMB HM0 HHc HK HLN HCr HAt
        go_wp2_with fail
        refine (HA1.out _ hB0).mono ?_
        rintro e w8 ⟨v1, ⟨hv0, hv1⟩, rfl, rfl⟩
        obtain ⟨a, ha, ha8⟩ : ∃ a : Nat, v1 % 8 = (a : Int) ∧ a < 8 := ⟨(v1 % 8).toNat, by omega, by omega⟩
        go_wp2_with fail
        refine (HA2.out _ hB0).mono ?_
        rintro e w9 ⟨v2, ⟨hu0, hu1⟩, rfl, rfl⟩
        obtain ⟨c, hc, hc8⟩ : ∃ c : Nat, v2 % 8 = (c : Int) ∧ c < 8 := ⟨(v2 % 8).toNat, by omega, by omega⟩
        go_wp2_with fail
        obtain ⟨aw, haw⟩ : ∃ z : Int, z = 1 + (a : Int) := ⟨_, rfl⟩
        obtain ⟨cw, hcw⟩ : ∃ z : Int, z = 1 + (c : Int) := ⟨_, rfl⟩
        have hcount : countR (rectR aw cw) = aw * cw := by
          have hh := rect_count (a := a + 1) (b := c + 1) (by omega) (by omega) (by omega) (by omega)
          rw [show ((a + 1 : Nat) : Int) = aw by omega, show ((c + 1 : Nat) : Int) = cw by omega] at hh
          exact hh
        have hmul : IntKind.i64.wrap (aw * cw) = aw * cw := by
          have hh : aw * cw = ((((a + 1) * (c + 1) : Nat)) : Int) := by rw [Int.natCast_mul, haw, hcw]; congr 1 <;> omega
          have h2 : (a + 1) * (c + 1) ≤ 8 * 8 := Nat.mul_le_mul (by omega) (by omega)
          rw [IntKind.wrap_i64]
          generalize (a + 1) * (c + 1) = z at hh h2
          omega
        have HRt := Lib.hid (fun W => iRectangle W aw cw)
        have HRn := Lib.hid (fun W A c' (h : RowB W W.heap.size A (rectR aw cw)) => (show Calls Try.prog 17 #[.agg #[.slice A (rectR aw cw).length c']] W (Num (aw * cw) W) from by
          have hh := iCountCells W A (rectR aw cw).length c' _ (rectR aw cw) rfl (by have := rectR_length aw cw; omega) h (Nat.le_refl _)
          rwa [hcount] at hh))
        rw [← haw, ← hcw]
        generalize rectR aw cw = Q at HRt HRn
        have HS2 := Lib.hid (fun W (h : P W) => (show P W ∧ W.cell? ⟨pr, 0, none⟩ = some (.slice Ar j cr) ∧ W.cell? ⟨pa, 0, none⟩ = some (.slice Aa 8 ca) ∧ W.cell? ⟨pb, 0, none⟩ = some (.slice Ab 8 cb) ∧ W.cell? ⟨pc, 0, none⟩ = some (.int .i64 (x : Int)) ∧ W.cell? ⟨pc, 1, none⟩ = some (.int .i64 (y : Int)) from
          ⟨h, (HPf.out _ h).1.2.1.cell, (HPf.out _ h).1.2.2.2.1.cell, (HPf.out _ h).1.2.2.2.2.cell, (HPf.out _ h).1.2.2.1.cells.1, (HPf.out _ h).1.2.2.1.cells.2⟩))
        have hbb : ((!hb) != hb) = true := by cases hb <;> rfl
        clear hcount haw hcw ha hc ha8 hc8 hB0 hv0 hv1 hu0 hu1 HA1 HA2
        refine wp_region_noPanic ?_
        refine wp_region_held_drew (S := (fun w' => P w' ∧ w'.cell? ⟨pr, 0, none⟩ = some (.slice Ar j cr) ∧ w'.cell? ⟨pa, 0, none⟩ = some (.slice Aa 8 ca) ∧ w'.cell? ⟨pb, 0, none⟩ = some (.slice Ab 8 cb) ∧ w'.cell? ⟨pc, 0, none⟩ = some (.int .i64 (x : Int)) ∧ w'.cell? ⟨pc, 1, none⟩ = some (.int .i64 (y : Int)))) (by kernel_rfl) (HS2.out _ (HPon.out _ _ HPw.out (Below.refl _ _).drew)) (fun hHeld => ?_)
        refine wpAnyH_take (i := 0) (v := ?_) rfl (by kernel_rfl) (by kernel_rfl) (by kernel_rfl) (fun _ _ _ h => h) (Or.inl ⟨by rfl, ?_⟩) (by assumption) ?_
        rotate_left
        · (intro w' hS; (try dsimp only at hS); go_simp; try with_reducible rfl)
        try simp only [Act.put, List.getElem_toArray, List.getElem_cons_succ, List.getElem_cons_zero, List.setIfInBounds_toArray, List.set_cons_zero, List.set_cons_succ]
        refine wpAnyH_take (i := 1) (v := ?_) rfl (by kernel_rfl) (by kernel_rfl) (by kernel_rfl) (fun _ _ _ h => h) (Or.inl ⟨by rfl, ?_⟩) (by assumption) ?_
        rotate_left
        · (intro w' hS; (try dsimp only at hS); go_simp; try with_reducible rfl)
        try simp only [Act.put, List.getElem_toArray, List.getElem_cons_succ, List.getElem_cons_zero, List.setIfInBounds_toArray, List.set_cons_zero, List.set_cons_succ]
        refine wpAnyH_take (i := 2) (v := ?_) rfl (by kernel_rfl) (by kernel_rfl) (by kernel_rfl) (fun _ _ _ h => h) (Or.inl ⟨by rfl, ?_⟩) (by assumption) ?_
        rotate_left
        · (intro w' hS; (try dsimp only at hS); go_simp; try with_reducible rfl)
        try simp only [Act.put, List.getElem_toArray, List.getElem_cons_succ, List.getElem_cons_zero, List.setIfInBounds_toArray, List.set_cons_zero, List.set_cons_succ]
        refine wpAnyH_take (i := 3) (v := ?_) rfl (by kernel_rfl) (by kernel_rfl) (by kernel_rfl) (fun _ _ _ h => h) (Or.inl ⟨by rfl, ?_⟩) (by assumption) ?_
        rotate_left
        · (intro w' hS; (try dsimp only at hS); go_simp; try with_reducible rfl)
        try simp only [Act.put, List.getElem_toArray, List.getElem_cons_succ, List.getElem_cons_zero, List.setIfInBounds_toArray, List.set_cons_zero, List.set_cons_succ]
        refine wpAnyH_take (i := 4) (v := ?_) rfl (by kernel_rfl) (by kernel_rfl) (by kernel_rfl) (fun _ _ _ h => h) (Or.inl ⟨by rfl, ?_⟩) (by assumption) ?_
        rotate_left
        · (intro w' hS; (try dsimp only at hS); go_simp; try with_reducible rfl)
        try simp only [Act.put, List.getElem_toArray, List.getElem_cons_succ, List.getElem_cons_zero, List.setIfInBounds_toArray, List.set_cons_zero, List.set_cons_succ]
        refine wpAnyH_take (i := 5) (v := ?_) rfl (by kernel_rfl) (by kernel_rfl) (by kernel_rfl) (fun _ _ _ h => h) (Or.inl ⟨by rfl, ?_⟩) (by assumption) ?_
        rotate_left
        · (intro w' hS; (try dsimp only at hS); go_simp; try with_reducible rfl)
        try simp only [Act.put, List.getElem_toArray, List.getElem_cons_succ, List.getElem_cons_zero, List.setIfInBounds_toArray, List.set_cons_zero, List.set_cons_succ]
        refine wpAnyH_take (i := 6) (v := ?_) rfl (by kernel_rfl) (by kernel_rfl) (by kernel_rfl) (fun _ _ _ h => h) (Or.inl ⟨by rfl, ?_⟩) (by assumption) ?_
        rotate_left
        · (intro w' hS; (try dsimp only at hS); go_simp; try with_reducible rfl)
        try simp only [Act.put, List.getElem_toArray, List.getElem_cons_succ, List.getElem_cons_zero, List.setIfInBounds_toArray, List.set_cons_zero, List.set_cons_succ]
        refine wpAnyH_ready (rs := [7]) (by kernel_rfl) (by simp) ?_
        refine AllReadyH.cons rfl (fun K hK => ?_) AllReadyH.nil
        go_simp
        refine (HHa.out _ _ _ (HPf.out _ hHeld.1).1.2.2.2.1.2).mono ?_
        rintro e wx ⟨rfl, hbx⟩
        go_wp2_with fail
        refine hK.out _ _ (HS2.out _ (HPon.out _ _ hHeld.1 hbx)) (fun hHeld => ?_)
        clear hK K
        try simp only [Act.put, List.getElem_toArray, List.getElem_cons_succ, List.getElem_cons_zero, List.setIfInBounds_toArray, List.set_cons_zero, List.set_cons_succ]
        refine wpAnyH_take (i := 8) (v := ?_) rfl (by kernel_rfl) (by kernel_rfl) (by kernel_rfl) (fun _ _ _ h => h) (Or.inl ⟨by rfl, ?_⟩) (by assumption) ?_
        rotate_left
        · (intro w' hS; (try dsimp only at hS); go_simp; try with_reducible rfl)
        try simp only [Act.put, List.getElem_toArray, List.getElem_cons_succ, List.getElem_cons_zero, List.setIfInBounds_toArray, List.set_cons_zero, List.set_cons_succ]
        refine wpAnyH_take (i := 9) (v := ?_) rfl (by kernel_rfl) (by kernel_rfl) (by kernel_rfl) (fun _ _ _ h => h) (Or.inl ⟨by rfl, ?_⟩) (by assumption) ?_
        rotate_left
        · (intro w' hS; (try dsimp only at hS); go_simp; try with_reducible rfl)
        try simp only [Act.put, List.getElem_toArray, List.getElem_cons_succ, List.getElem_cons_zero, List.setIfInBounds_toArray, List.set_cons_zero, List.set_cons_succ]
        refine wpAnyH_take (i := 10) (v := ?_) rfl (by kernel_rfl) (by kernel_rfl) (by kernel_rfl) (fun _ _ _ h => h) (Or.inl ⟨by rfl, ?_⟩) (by assumption) ?_
        rotate_left
        · (intro w' hS; (try dsimp only at hS); go_simp; try with_reducible rfl)
        try simp only [Act.put, List.getElem_toArray, List.getElem_cons_succ, List.getElem_cons_zero, List.setIfInBounds_toArray, List.set_cons_zero, List.set_cons_succ]
        refine wpAnyH_take (i := 11) (v := ?_) rfl (by kernel_rfl) (by kernel_rfl) (by kernel_rfl) (fun _ _ _ h => h) (Or.inl ⟨by rfl, ?_⟩) (by assumption) ?_
        rotate_left
        · (intro w' hS; (try dsimp only at hS); go_simp; try with_reducible rfl)
        try simp only [Act.put, List.getElem_toArray, List.getElem_cons_succ, List.getElem_cons_zero, List.setIfInBounds_toArray, List.set_cons_zero, List.set_cons_succ]
        refine wpAnyH_ready (rs := [12]) (by kernel_rfl) (by simp) ?_
        refine AllReadyH.cons rfl (fun K hK => ?_) AllReadyH.nil
        go_simp
        refine (HHb.out _ _ _ (HPf.out _ hHeld.1).1.2.2.2.2.2).mono ?_
        rintro e wx ⟨rfl, hbx⟩
        go_wp2_with fail
        refine hK.out _ _ (HS2.out _ (HPon.out _ _ hHeld.1 hbx)) (fun hHeld => ?_)
        clear hK K
        try simp only [Act.put, List.getElem_toArray, List.getElem_cons_succ, List.getElem_cons_zero, List.setIfInBounds_toArray, List.set_cons_zero, List.set_cons_succ]
        refine wpAnyH_take (i := 13) (v := ?_) rfl (by kernel_rfl) (by kernel_rfl) (by kernel_rfl) (fun _ _ _ h => h) (Or.inl ⟨by rfl, ?_⟩) (by assumption) ?_
        rotate_left
        · (intro w' hS; (try dsimp only at hS); go_simp; try with_reducible rfl)
        try simp only [Act.put, List.getElem_toArray, List.getElem_cons_succ, List.getElem_cons_zero, List.setIfInBounds_toArray, List.set_cons_zero, List.set_cons_succ]
        refine wpAnyH_take (i := 14) (v := ?_) rfl (by kernel_rfl) (by kernel_rfl) (by kernel_rfl) (fun _ _ _ h => h) (Or.inl ⟨by rfl, ?_⟩) (by assumption) ?_
        rotate_left
        · (intro w' hS; (try dsimp only at hS); go_simp; try with_reducible rfl)
        try simp only [Act.put, List.getElem_toArray, List.getElem_cons_succ, List.getElem_cons_zero, List.setIfInBounds_toArray, List.set_cons_zero, List.set_cons_succ]
        refine wpAnyH_take (i := 15) (v := ?_) rfl (by kernel_rfl) (by kernel_rfl) (by kernel_rfl) (fun _ _ _ h => h) (Or.inl ⟨by rfl, ?_⟩) (by assumption) ?_
        rotate_left
        · (intro w' hS; (try dsimp only at hS); go_simp; try with_reducible rfl)
        try simp only [Act.put, List.getElem_toArray, List.getElem_cons_succ, List.getElem_cons_zero, List.setIfInBounds_toArray, List.set_cons_zero, List.set_cons_succ]
        refine wpAnyH_take (i := 16) (v := ?_) rfl (by kernel_rfl) (by kernel_rfl) (by kernel_rfl) (fun _ _ _ h => h) (Or.inl ⟨by rfl, ?_⟩) (by assumption) ?_
        rotate_left
        · (intro w' hS; (try dsimp only at hS); go_simp; try with_reducible rfl)
        try simp only [Act.put, List.getElem_toArray, List.getElem_cons_succ, List.getElem_cons_zero, List.setIfInBounds_toArray, List.set_cons_zero, List.set_cons_succ]
        refine wpAnyH_take (i := 17) (v := ?_) rfl (by kernel_rfl) (by kernel_rfl) (by kernel_rfl) (fun _ _ _ h => h) (Or.inl ⟨by rfl, ?_⟩) (by assumption) ?_
        rotate_left
        · (intro w' hS; (try dsimp only at hS); go_simp; try with_reducible rfl)
        try simp only [Act.put, List.getElem_toArray, List.getElem_cons_succ, List.getElem_cons_zero, List.setIfInBounds_toArray, List.set_cons_zero, List.set_cons_succ]
        refine wpAnyH_take (i := 19) (v := ?_) rfl (by kernel_rfl) (by kernel_rfl) (by kernel_rfl) (fun _ _ _ h => h) (Or.inl ⟨by rfl, ?_⟩) (by assumption) ?_
        rotate_left
        · (intro w' hS; (try dsimp only at hS); go_simp; try with_reducible rfl)
        try simp only [Act.put, List.getElem_toArray, List.getElem_cons_succ, List.getElem_cons_zero, List.setIfInBounds_toArray, List.set_cons_zero, List.set_cons_succ]
        refine wpAnyH_take (i := 20) (v := ?_) rfl (by kernel_rfl) (by kernel_rfl) (by kernel_rfl) (fun _ _ _ h => h) (Or.inl ⟨by rfl, ?_⟩) (by assumption) ?_
        rotate_left
        · (intro w' hS; (try dsimp only at hS); go_simp; try with_reducible rfl)
        try simp only [Act.put, List.getElem_toArray, List.getElem_cons_succ, List.getElem_cons_zero, List.setIfInBounds_toArray, List.set_cons_zero, List.set_cons_succ]
        refine wpAnyH_ready (rs := [18]) (by kernel_rfl) (by simp) ?_
        refine AllReadyH.cons rfl (fun K hK => ?_) AllReadyH.nil
        go_simp
        refine (HSa.out _ _ _ (HPf.out _ hHeld.1).1.2.1.2 (HPf.out _ hHeld.1).1.2.2.2.1.2).mono ?_
        rintro e wx ⟨rfl, hbx⟩
        go_wp2_with fail
        refine hK.out _ _ (HS2.out _ (HPon.out _ _ hHeld.1 hbx)) (fun hHeld => ?_)
        clear hK K
        try simp only [Act.put, List.getElem_toArray, List.getElem_cons_succ, List.getElem_cons_zero, List.setIfInBounds_toArray, List.set_cons_zero, List.set_cons_succ]
        refine wpAnyH_ready (rs := [21]) (by kernel_rfl) (by simp) ?_
        refine AllReadyH.cons rfl (fun K hK => ?_) AllReadyH.nil
        go_simp
        refine (HHr.out _ (HPf.out _ hHeld.1).1.2.1.2).mono ?_
        rintro e wx ⟨rfl, hbx⟩
        go_wp2_with fail
        refine hK.out _ _ (HS2.out _ (HPon.out _ _ hHeld.1 hbx)) (fun hHeld => ?_)
        clear hK K
        try simp only [Act.put, List.getElem_toArray, List.getElem_cons_succ, List.getElem_cons_zero, List.setIfInBounds_toArray, List.set_cons_zero, List.set_cons_succ]
        refine wpAnyH_take (i := 22) (v := ?_) rfl (by kernel_rfl) (by kernel_rfl) (by kernel_rfl) (fun _ _ _ h => h) (Or.inl ⟨by rfl, ?_⟩) (by assumption) ?_
        rotate_left
        · (intro w' hS; (try dsimp only at hS); go_simp; try with_reducible rfl)
        try simp only [Act.put, List.getElem_toArray, List.getElem_cons_succ, List.getElem_cons_zero, List.setIfInBounds_toArray, List.set_cons_zero, List.set_cons_succ]
        refine wpAnyH_take (i := 23) (v := ?_) rfl (by kernel_rfl) (by kernel_rfl) (by kernel_rfl) (fun _ _ _ h => h) (Or.inl ⟨by rfl, ?_⟩) (by assumption) ?_
        rotate_left
        · (intro w' hS; (try dsimp only at hS); go_simp; try with_reducible rfl)
        try simp only [Act.put, List.getElem_toArray, List.getElem_cons_succ, List.getElem_cons_zero, List.setIfInBounds_toArray, List.set_cons_zero, List.set_cons_succ]
        refine wpAnyH_take (i := 24) (v := ?_) rfl (by kernel_rfl) (by kernel_rfl) (by kernel_rfl) (fun _ _ _ h => h) (Or.inl ⟨by rfl, ?_⟩) (by assumption) ?_
        rotate_left
        · (intro w' hS; (try dsimp only at hS); go_simp; try with_reducible rfl)
        try simp only [Act.put, List.getElem_toArray, List.getElem_cons_succ, List.getElem_cons_zero, List.setIfInBounds_toArray, List.set_cons_zero, List.set_cons_succ]
        refine wpAnyH_take (i := 25) (v := ?_) rfl (by kernel_rfl) (by kernel_rfl) (by kernel_rfl) (fun _ _ _ h => h) (Or.inl ⟨by rfl, ?_⟩) (by assumption) ?_
        rotate_left
        · (intro w' hS; (try dsimp only at hS); go_simp; try with_reducible rfl)
        try simp only [Act.put, List.getElem_toArray, List.getElem_cons_succ, List.getElem_cons_zero, List.setIfInBounds_toArray, List.set_cons_zero, List.set_cons_succ]
        refine wpAnyH_take (i := 26) (v := ?_) rfl (by kernel_rfl) (by kernel_rfl) (by kernel_rfl) (fun _ _ _ h => h) (Or.inl ⟨by rfl, ?_⟩) (by assumption) ?_
        rotate_left
        · (intro w' hS; (try dsimp only at hS); go_simp; try with_reducible rfl)
        try simp only [Act.put, List.getElem_toArray, List.getElem_cons_succ, List.getElem_cons_zero, List.setIfInBounds_toArray, List.set_cons_zero, List.set_cons_succ]
        refine wpAnyH_take (i := 28) (v := ?_) rfl (by kernel_rfl) (by kernel_rfl) (by kernel_rfl) (fun _ _ _ h => h) (Or.inl ⟨by rfl, ?_⟩) (by assumption) ?_
        rotate_left
        · (intro w' hS; (try dsimp only at hS); go_simp; try with_reducible rfl)
        try simp only [Act.put, List.getElem_toArray, List.getElem_cons_succ, List.getElem_cons_zero, List.setIfInBounds_toArray, List.set_cons_zero, List.set_cons_succ]
        refine wpAnyH_take (i := 29) (v := ?_) rfl (by kernel_rfl) (by kernel_rfl) (by kernel_rfl) (fun _ _ _ h => h) (Or.inl ⟨by rfl, ?_⟩) (by assumption) ?_
        rotate_left
        · (intro w' hS; (try dsimp only at hS); go_simp; try with_reducible rfl)
        try simp only [Act.put, List.getElem_toArray, List.getElem_cons_succ, List.getElem_cons_zero, List.setIfInBounds_toArray, List.set_cons_zero, List.set_cons_succ]
        refine wpAnyH_ready (rs := [27]) (by kernel_rfl) (by simp) ?_
        refine AllReadyH.cons rfl (fun K hK => ?_) AllReadyH.nil
        go_simp
        refine (HSb.out _ _ _ (HPf.out _ hHeld.1).1.2.1.2 (HPf.out _ hHeld.1).1.2.2.2.2.2).mono ?_
        rintro e wx ⟨rfl, hbx⟩
        go_wp2_with fail
        refine hK.out _ _ (HS2.out _ (HPon.out _ _ hHeld.1 hbx)) (fun hHeld => ?_)
        clear hK K
        try simp only [Act.put, List.getElem_toArray, List.getElem_cons_succ, List.getElem_cons_zero, List.setIfInBounds_toArray, List.set_cons_zero, List.set_cons_succ]
        refine wpAnyH_ready (rs := [30]) (by kernel_rfl) (by simp) ?_
        refine AllReadyH.cons rfl (fun K hK => ?_) AllReadyH.nil
        go_simp
        refine (HHr.out _ (HPf.out _ hHeld.1).1.2.1.2).mono ?_
        rintro e wx ⟨rfl, hbx⟩
        go_wp2_with fail
        refine hK.out _ _ (HS2.out _ (HPon.out _ _ hHeld.1 hbx)) (fun hHeld => ?_)
        clear hK K
        try simp only [Act.put, List.getElem_toArray, List.getElem_cons_succ, List.getElem_cons_zero, List.setIfInBounds_toArray, List.set_cons_zero, List.set_cons_succ]
        refine wpAnyH_take (i := 31) (v := ?_) rfl (by kernel_rfl) (by kernel_rfl) (by kernel_rfl) (fun _ _ _ h => h) (Or.inl ⟨by rfl, ?_⟩) (by assumption) ?_
        rotate_left
        · (intro w' hS; (try dsimp only at hS); go_simp; try with_reducible rfl)
        try simp only [Act.put, List.getElem_toArray, List.getElem_cons_succ, List.getElem_cons_zero, List.setIfInBounds_toArray, List.set_cons_zero, List.set_cons_succ]
        refine wpAnyH_take (i := 32) (v := ?_) rfl (by kernel_rfl) (by kernel_rfl) (by kernel_rfl) (fun _ _ _ h => h) (Or.inl ⟨by rfl, ?_⟩) (by assumption) ?_
        rotate_left
        · (intro w' hS; (try dsimp only at hS); go_simp; try with_reducible rfl)
        try simp only [Act.put, List.getElem_toArray, List.getElem_cons_succ, List.getElem_cons_zero, List.setIfInBounds_toArray, List.set_cons_zero, List.set_cons_succ]
        refine wpAnyH_take (i := 33) (v := ?_) rfl (by kernel_rfl) (by kernel_rfl) (by kernel_rfl) (fun _ _ _ h => h) (Or.inl ⟨by rfl, ?_⟩) (by assumption) ?_
        rotate_left
        · (intro w' hS; (try dsimp only at hS); go_simp; try with_reducible rfl)
        try simp only [Act.put, List.getElem_toArray, List.getElem_cons_succ, List.getElem_cons_zero, List.setIfInBounds_toArray, List.set_cons_zero, List.set_cons_succ]
        refine wpAnyH_take (i := 34) (v := ?_) rfl (by kernel_rfl) (by kernel_rfl) (by kernel_rfl) (fun _ _ _ h => h) (Or.inl ⟨by rfl, ?_⟩) (by assumption) ?_
        rotate_left
        · (intro w' hS; (try dsimp only at hS); go_simp; try with_reducible rfl)
        try simp only [Act.put, List.getElem_toArray, List.getElem_cons_succ, List.getElem_cons_zero, List.setIfInBounds_toArray, List.set_cons_zero, List.set_cons_succ]
        refine wpAnyH_take (i := 35) (v := ?_) rfl (by kernel_rfl) (by kernel_rfl) (by kernel_rfl) (fun _ _ _ h => h) (Or.inl ⟨by rfl, ?_⟩) (by assumption) ?_
        rotate_left
        · (intro w' hS; (try dsimp only at hS); go_simp; try with_reducible rfl)
        try simp only [Act.put, List.getElem_toArray, List.getElem_cons_succ, List.getElem_cons_zero, List.setIfInBounds_toArray, List.set_cons_zero, List.set_cons_succ]
        refine wpAnyH_take (i := 36) (v := ?_) rfl (by kernel_rfl) (by kernel_rfl) (by kernel_rfl) (fun _ _ _ h => h) (Or.inl ⟨by rfl, ?_⟩) (by assumption) ?_
        rotate_left
        · (intro w' hS; (try dsimp only at hS); go_simp; try with_reducible rfl)
        try simp only [Act.put, List.getElem_toArray, List.getElem_cons_succ, List.getElem_cons_zero, List.setIfInBounds_toArray, List.set_cons_zero, List.set_cons_succ]
        refine wpAnyH_take (i := 37) (v := ?_) rfl (by kernel_rfl) (by kernel_rfl) (by kernel_rfl) (fun _ _ _ h => h) (Or.inl ⟨by rfl, ?_⟩) (by assumption) ?_
        rotate_left
        · (intro w' hS; (try dsimp only at hS); go_simp; try with_reducible rfl)
        try simp only [Act.put, List.getElem_toArray, List.getElem_cons_succ, List.getElem_cons_zero, List.setIfInBounds_toArray, List.set_cons_zero, List.set_cons_succ]
        refine wpAnyH_take (i := 38) (v := ?_) rfl (by kernel_rfl) (by kernel_rfl) (by kernel_rfl) (fun _ _ _ h => h) (Or.inl ⟨by rfl, ?_⟩) (by assumption) ?_
        rotate_left
        · (intro w' hS; (try dsimp only at hS); go_simp; try with_reducible rfl)
        try simp only [Act.put, List.getElem_toArray, List.getElem_cons_succ, List.getElem_cons_zero, List.setIfInBounds_toArray, List.set_cons_zero, List.set_cons_succ]
        refine wpAnyH_take (i := 39) (v := ?_) rfl (by kernel_rfl) (by kernel_rfl) (by kernel_rfl) (fun _ _ _ h => h) (Or.inl ⟨by rfl, ?_⟩) (by assumption) ?_
        rotate_left
        · (intro w' hS; (try dsimp only at hS); go_simp; try with_reducible rfl)
        try simp only [Act.put, List.getElem_toArray, List.getElem_cons_succ, List.getElem_cons_zero, List.setIfInBounds_toArray, List.set_cons_zero, List.set_cons_succ]
        refine wpAnyH_take (i := 42) (v := ?_) rfl (by kernel_rfl) (by kernel_rfl) (by kernel_rfl) (fun _ _ _ h => h) (Or.inl ⟨by rfl, ?_⟩) (by assumption) ?_
        rotate_left
        · (intro w' hS; (try dsimp only at hS); go_simp; try with_reducible rfl)
        try simp only [Act.put, List.getElem_toArray, List.getElem_cons_succ, List.getElem_cons_zero, List.setIfInBounds_toArray, List.set_cons_zero, List.set_cons_succ]
        refine wpAnyH_ready (rs := [40]) (by kernel_rfl) (by simp) ?_
        refine AllReadyH.cons rfl (fun K hK => ?_) AllReadyH.nil
        go_simp
        refine (HCl.out _ (HPf.out _ hHeld.1).1.2.1.2).mono ?_
        rintro e wx ⟨Al, cl, rfl, _, hbx⟩
        go_wp2_with fail
        refine hK.out _ _ (HS2.out _ (HPon.out _ _ hHeld.1 hbx)) (fun hHeld => ?_)
        clear hK K
        try simp only [Act.put, List.getElem_toArray, List.getElem_cons_succ, List.getElem_cons_zero, List.setIfInBounds_toArray, List.set_cons_zero, List.set_cons_succ]
        refine wpAnyH_take (i := 41) (v := ?_) rfl (by kernel_rfl) (by kernel_rfl) (by kernel_rfl) (fun _ _ _ h => h) (Or.inl ⟨by rfl, ?_⟩) (by assumption) ?_
        rotate_left
        · (intro w' hS; (try dsimp only at hS); go_simp; try with_reducible rfl)
        try simp only [Act.put, List.getElem_toArray, List.getElem_cons_succ, List.getElem_cons_zero, List.setIfInBounds_toArray, List.set_cons_zero, List.set_cons_succ]
        refine wpAnyH_take (i := 43) (v := ?_) rfl (by kernel_rfl) (by kernel_rfl) (by kernel_rfl) (fun _ _ _ h => h) (Or.inl ⟨by rfl, ?_⟩) (by assumption) ?_
        rotate_left
        · (intro w' hS; (try dsimp only at hS); go_simp; try with_reducible rfl)
        try simp only [Act.put, List.getElem_toArray, List.getElem_cons_succ, List.getElem_cons_zero, List.setIfInBounds_toArray, List.set_cons_zero, List.set_cons_succ]
        refine wpAnyH_take (i := 44) (v := ?_) rfl (by kernel_rfl) (by kernel_rfl) (by kernel_rfl) (fun _ _ _ h => h) (Or.inl ⟨by rfl, ?_⟩) (by assumption) ?_
        rotate_left
        · (intro w' hS; (try dsimp only at hS); go_simp; try with_reducible rfl)
        try simp only [Act.put, List.getElem_toArray, List.getElem_cons_succ, List.getElem_cons_zero, List.setIfInBounds_toArray, List.set_cons_zero, List.set_cons_succ]
        refine wpAnyH_take (i := 45) (v := ?_) rfl (by kernel_rfl) (by kernel_rfl) (by kernel_rfl) (fun _ _ _ h => h) (Or.inl ⟨by rfl, ?_⟩) (by assumption) ?_
        rotate_left
        · (intro w' hS; (try dsimp only at hS); go_simp; try with_reducible rfl)
        try simp only [Act.put, List.getElem_toArray, List.getElem_cons_succ, List.getElem_cons_zero, List.setIfInBounds_toArray, List.set_cons_zero, List.set_cons_succ]
        refine wpAnyH_take (i := 46) (v := ?_) rfl (by kernel_rfl) (by kernel_rfl) (by kernel_rfl) (fun _ _ _ h => h) (Or.inl ⟨by rfl, ?_⟩) (by assumption) ?_
        rotate_left
        · (intro w' hS; (try dsimp only at hS); go_simp; try with_reducible rfl)
        try simp only [Act.put, List.getElem_toArray, List.getElem_cons_succ, List.getElem_cons_zero, List.setIfInBounds_toArray, List.set_cons_zero, List.set_cons_succ]
        refine wpAnyH_take (i := 47) (v := ?_) rfl (by kernel_rfl) (by kernel_rfl) (by kernel_rfl) (fun _ _ _ h => h) (Or.inl ⟨by rfl, ?_⟩) (by assumption) ?_
        rotate_left
        · (intro w' hS; (try dsimp only at hS); go_simp; try with_reducible rfl)
        try simp only [Act.put, List.getElem_toArray, List.getElem_cons_succ, List.getElem_cons_zero, List.setIfInBounds_toArray, List.set_cons_zero, List.set_cons_succ]
        refine wpAnyH_take (i := 50) (v := ?_) rfl (by kernel_rfl) (by kernel_rfl) (by kernel_rfl) (fun _ _ _ h => h) (Or.inl ⟨by rfl, ?_⟩) (by assumption) ?_
        rotate_left
        · (intro w' hS; (try dsimp only at hS); go_simp; try with_reducible rfl)
        try simp only [Act.put, List.getElem_toArray, List.getElem_cons_succ, List.getElem_cons_zero, List.setIfInBounds_toArray, List.set_cons_zero, List.set_cons_succ]
        refine wpAnyH_take (i := 51) (v := ?_) rfl (by kernel_rfl) (by kernel_rfl) (by kernel_rfl) (fun _ _ _ h => h) (Or.inl ⟨by rfl, ?_⟩) (by assumption) ?_
        rotate_left
        · (intro w' hS; (try dsimp only at hS); go_simp; try with_reducible rfl)
        try simp only [Act.put, List.getElem_toArray, List.getElem_cons_succ, List.getElem_cons_zero, List.setIfInBounds_toArray, List.set_cons_zero, List.set_cons_succ]
        refine wpAnyH_take (i := 52) (v := ?_) rfl (by kernel_rfl) (by kernel_rfl) (by kernel_rfl) (fun _ _ _ h => h) (Or.inl ⟨by rfl, ?_⟩) (by assumption) ?_
        rotate_left
        · (intro w' hS; (try dsimp only at hS); go_simp; try with_reducible rfl)
        try simp only [Act.put, List.getElem_toArray, List.getElem_cons_succ, List.getElem_cons_zero, List.setIfInBounds_toArray, List.set_cons_zero, List.set_cons_succ]
        refine wpAnyH_ready (rs := [48]) (by kernel_rfl) (by simp) ?_
        refine AllReadyH.cons rfl (fun K hK => ?_) AllReadyH.nil
        go_simp
        refine (HRt.out _).mono ?_
        rintro e wx ⟨Aq, cq, rfl, hown, hbx⟩
        have hrw := rowB_own hown
        clear hown
        go_wp2_with fail
        refine hK.out _ _ (HS2.out _ (HPon.out _ _ hHeld.1 hbx)) (fun hHeld => ?_)
        clear hK K
        try simp only [Act.put, List.getElem_toArray, List.getElem_cons_succ, List.getElem_cons_zero, List.setIfInBounds_toArray, List.set_cons_zero, List.set_cons_succ]
        refine wpAnyH_ready (rs := [49]) (by kernel_rfl) (by simp) ?_
        refine AllReadyH.cons rfl (fun K hK => ?_) AllReadyH.nil
        go_simp
        refine (HRn.out _ _ _ hrw).mono ?_
        rintro e wx ⟨rfl, hbx⟩
        go_wp2_with fail
        refine hK.out _ _ (HS2.out _ (HPon.out _ _ hHeld.1 hbx)) (fun hHeld => ?_)
        clear hK K
        try simp only [Act.put, List.getElem_toArray, List.getElem_cons_succ, List.getElem_cons_zero, List.setIfInBounds_toArray, List.set_cons_zero, List.set_cons_succ]
        refine wpAnyH_take (i := 53) (v := ?_) rfl (by kernel_rfl) (by kernel_rfl) (by kernel_rfl) (fun _ _ _ h => h) (Or.inl ⟨by rfl, ?_⟩) (by assumption) ?_
        rotate_left
        · (intro w' hS; (try dsimp only at hS); go_simp; try with_reducible rfl)
        try simp only [Act.put, List.getElem_toArray, List.getElem_cons_succ, List.getElem_cons_zero, List.setIfInBounds_toArray, List.set_cons_zero, List.set_cons_succ]
        refine wpAnyH_take (i := 54) (v := ?_) rfl (by kernel_rfl) (by kernel_rfl) (by kernel_rfl) (fun _ _ _ h => h) (Or.inl ⟨by rfl, ?_⟩) (by assumption) ?_
        rotate_left
        · (intro w' hS; (try dsimp only at hS); go_simp; try with_reducible rfl)
        try simp only [Act.put, List.getElem_toArray, List.getElem_cons_succ, List.getElem_cons_zero, List.setIfInBounds_toArray, List.set_cons_zero, List.set_cons_succ]
        refine wpAnyH_take (i := 55) (v := ?_) rfl (by kernel_rfl) (by kernel_rfl) (by kernel_rfl) (fun _ _ _ h => h) (Or.inl ⟨by rfl, ?_⟩) (by assumption) ?_
        rotate_left
        · (intro w' hS; (try dsimp only at hS); go_simp; try with_reducible rfl)
        try simp only [Act.put, List.getElem_toArray, List.getElem_cons_succ, List.getElem_cons_zero, List.setIfInBounds_toArray, List.set_cons_zero, List.set_cons_succ]
        refine wpAnyH_take (i := 56) (v := ?_) rfl (by kernel_rfl) (by kernel_rfl) (by kernel_rfl) (fun _ _ _ h => h) (Or.inl ⟨by rfl, ?_⟩) (by assumption) ?_
        rotate_left
        · (intro w' hS; (try dsimp only at hS); go_simp; try with_reducible rfl)
        try simp only [Act.put, List.getElem_toArray, List.getElem_cons_succ, List.getElem_cons_zero, List.setIfInBounds_toArray, List.set_cons_zero, List.set_cons_succ]
        refine wpAnyH_ready (rs := [57]) (by kernel_rfl) (by simp) ?_
        refine AllReadyH.cons rfl (fun K hK => ?_) AllReadyH.nil
        go_simp
        refine (HRg.out _ (HPf.out _ hHeld.1).1.2.1.2).mono ?_
        rintro e wx ⟨rfl, hbx⟩
        go_wp2_with fail
        refine hK.out _ _ (HS2.out _ (HPon.out _ _ hHeld.1 hbx)) (fun hHeld => ?_)
        clear hK K
        try simp only [Act.put, List.getElem_toArray, List.getElem_cons_succ, List.getElem_cons_zero, List.setIfInBounds_toArray, List.set_cons_zero, List.set_cons_succ]
        refine wpAnyH_take (i := 58) (v := ?_) rfl (by kernel_rfl) (by kernel_rfl) (by kernel_rfl) (fun _ _ _ h => h) (Or.inl ⟨by rfl, ?_⟩) (by assumption) ?_
        rotate_left
        · (intro w' hS; (try dsimp only at hS); go_simp; try with_reducible rfl)
        try simp only [Act.put, List.getElem_toArray, List.getElem_cons_succ, List.getElem_cons_zero, List.setIfInBounds_toArray, List.set_cons_zero, List.set_cons_succ]
        refine wpAnyH_take (i := 59) (v := ?_) rfl (by kernel_rfl) (by kernel_rfl) (by kernel_rfl) (fun _ _ _ h => h) (Or.inl ⟨by rfl, ?_⟩) (by assumption) ?_
        rotate_left
        · (intro w' hS; (try dsimp only at hS); go_simp; try with_reducible rfl)
        try simp only [Act.put, List.getElem_toArray, List.getElem_cons_succ, List.getElem_cons_zero, List.setIfInBounds_toArray, List.set_cons_zero, List.set_cons_succ]
        refine wpAnyH_done (by kernel_rfl) ?_ _
        refine NoPanic.normal ?_
        have hend := (HPf.out _ hHeld.1).1.1
        clear hHeld
        go_wp2
        go_ret
        exact ⟨rfl, hend⟩
end Go.Proofs.Ytgngeebafpabdaa.Regions
