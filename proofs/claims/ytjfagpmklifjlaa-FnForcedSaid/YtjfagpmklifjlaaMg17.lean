/- CtW, FrW, TilA in one text. -/
import Derived.Test.YtjfagpmklifjlaaMg16
import Derived.Test.YtjfagpmklifjlaaMg01
import Derived.Test.YtjfagpmklifjlaaMg08
import Derived.Test.YtjfagpmklifjlaaMg03

namespace Go.Proofs.Ytjfagpmklifjlaa.Prof
set_option linter.unusedVariables false
set_option maxRecDepth 100000
set_option linter.unusedSimpArgs false
open Go.RowKit Go.Proofs.Ytjfagpmklifjlaa.Pure Go.Proofs.Ytjfagpmklifjlaa.Cell Go.Proofs.Ytjfagpmklifjlaa.Reg Go.Proofs.Ytjfagpmklifjlaa.Cnt Go.Proofs.Ytjfagpmklifjlaa.Dom Go.Joins

def withT (xs : List Int) (x y : Int) (b : Bool) : Int := if hasB xs x y = true ∧ hasB xs (sx x b) (sy y b) = true then tilesR (withX (withX xs x y false) (sx x b) (sy y b) false) else 0
theorem withT_in {xs : List Int} {x y u v : Int} {b : Bool} (hu : u = sx x b) (hv : v = sy y b) (h : hasB xs x y = true) (h2 : hasB xs u v = true) : withT xs x y b = tilesR (withX (withX xs x y false) u v false) := by subst hu hv; exact if_pos ⟨h, h2⟩
theorem withT_out {xs : List Int} {x y u v : Int} {b : Bool} (hu : u = sx x b) (hv : v = sy y b) (h : ¬ (hasB xs x y = true ∧ hasB xs u v = true)) : withT xs x y b = 0 := by subst hu hv; exact if_neg h
theorem with_len {xs : List Int} {x y : Int} (h : hasB xs x y = true) : okR xs ∧ okR (withX xs x y false) ∧ (withX xs x y false).length = 8 := by
 obtain ⟨ho, h0, h1, h2, h3, _⟩ := hasB_iff.1 h
 have e := withX_in ho (x := x.toNat) (y := y.toNat) (by omega) (by omega) false
 rw [Int.toNat_of_nonneg h0, Int.toNat_of_nonneg h2] at e
 rw [e.1]
 exact ⟨ho, okR_with ho (by omega) (by omega), withR_length ho.1 _ _ _⟩
theorem with_len2 {xs : List Int} {x y u v : Int} (h : hasB xs x y = true) (h2 : hasB xs u v = true) : okR (withX (withX xs x y false) u v false) ∧ (withX (withX xs x y false) u v false).length = 8 := by
 obtain ⟨_, ho, _⟩ := with_len h
 obtain ⟨_, h0, h1, h2, h3, _⟩ := hasB_iff.1 h2
 have e := withX_in ho (x := u.toNat) (y := v.toNat) (by omega) (by omega) false
 rw [Int.toNat_of_nonneg h0, Int.toNat_of_nonneg h2] at e
 rw [e.1]
 exact ⟨okR_with ho (by omega) (by omega), withR_length ho.1 _ _ _⟩
def CW (w : World) (vr : Value) (p1 p2 : Nat) (x y u v : Int) (W : World) : Prop := Below w.heap.size w W ∧ W.heap[w.heap.size]? = some (.cells #[vr] 26) ∧ W.heap[p1]? = some (.cells #[.int .i64 x, .int .i64 y] 38) ∧ W.heap[p2]? = some (.cells #[.int .i64 u, .int .i64 v] 38)
theorem CW.on {w W W' : World} {vr : Value} {p1 p2 : Nat} {x y u v : Int} (h : CW w vr p1 p2 x y u v W) (hb : Below W.heap.size W W') : CW w vr p1 p2 x y u v W' := by
 obtain ⟨a, b, c, d⟩ := h
 have hz := (Array.getElem?_eq_some_iff.1 b).1
 exact ⟨a.trans (hb.mono (by omega)), (hb.block _ hz).trans b, (hb.block _ (Array.getElem?_eq_some_iff.1 c).1).trans c, (hb.block _ (Array.getElem?_eq_some_iff.1 d).1).trans d⟩
theorem CW.cells {w W : World} {vr : Value} {p1 p2 : Nat} {x y u v : Int} (h : CW w vr p1 p2 x y u v W) : W.cell? ⟨w.heap.size, 0, none⟩ = some vr ∧ W.cell? ⟨p1, 0, none⟩ = some (.int .i64 x) ∧ W.cell? ⟨p1, 1, none⟩ = some (.int .i64 y) ∧ W.cell? ⟨p2, 0, none⟩ = some (.int .i64 u) ∧ W.cell? ⟨p2, 1, none⟩ = some (.int .i64 v) :=
 ⟨(cellAt h.2.1 0).1.trans rfl, (cellAt h.2.2.1 0).1.trans rfl, (cellAt h.2.2.1 1).1.trans rfl, (cellAt h.2.2.2 0).1.trans rfl, (cellAt h.2.2.2 1).1.trans rfl⟩

theorem cw_start {w w1 : World} {vr : Value} {x y u v : Int} {b : Bool} (hb1 : Below ((w.alloc (.cells #[vr] 26)).alloc (.cells #[.int .i64 x, .int .i64 y, .bool b] 41)).heap.size ((w.alloc (.cells #[vr] 26)).alloc (.cells #[.int .i64 x, .int .i64 y, .bool b] 41)) w1) :
  CW w vr w1.heap.size (w1.heap.size + 1) x y u v ((w1.alloc (.cells #[.int .i64 x, .int .i64 y] 38)).alloc (.cells #[.int .i64 u, .int .i64 v] 38)) := by
 have e0 : (w.alloc (.cells #[vr] 26)).heap.size = w.heap.size + 1 := by simp
 have e1 : ((w.alloc (.cells #[vr] 26)).alloc (.cells #[.int .i64 x, .int .i64 y, .bool b] 41)).heap.size = w.heap.size + 2 := by simp
 have e2 : (w1.alloc (.cells #[.int .i64 x, .int .i64 y] 38)).heap.size = w1.heap.size + 1 := by simp
 rw [e1] at hb1
 have hz := hb1.size
 rw [e1] at hz
 have h0 : ((w.alloc (.cells #[vr] 26)).alloc (.cells #[.int .i64 x, .int .i64 y, .bool b] 41)).heap[w.heap.size]? = some (.cells #[vr] 26) :=
  ((below_alloc1 (w.alloc (.cells #[vr] 26)) _).block w.heap.size (by rw [e0]; omega)).trans (heap_alloc_new w _)
 have h3 := heap_alloc_new (w1.alloc (.cells #[.int .i64 x, .int .i64 y] 38)) (.cells #[.int .i64 u, .int .i64 v] 38)
 rw [e2] at h3
 have hb2 := below_alloc2 w1 (.cells #[.int .i64 x, .int .i64 y] 38) (.cells #[.int .i64 u, .int .i64 v] 38)
 refine ⟨((below_alloc2 w _ _).trans (hb1.mono (by omega))).trans (hb2.mono (by omega)), ?_, ?_, h3⟩
 ·exact (hb2.block _ (by omega)).trans ((hb1.block _ (by omega)).trans h0)
 ·exact ((below_alloc1 (w1.alloc (.cells #[.int .i64 x, .int .i64 y] 38)) _).block _ (by rw [e2]; omega)).trans (heap_alloc_new w1 _)
theorem own_some {W : World} {base e n c : Nat} {A : Option Addr} {ys : List Value} (h : W.ownsRow base e 1 (.slice A n c) n ys) (hn : n = 8) : A = none → n = 0 ∧ c = 0 := by
 intro ha
 subst ha
 rcases h.2 with ⟨h', h0⟩ | ⟨g', cap', cur, h', _⟩
 ·omega
 ·simp at h'
set_option maxRecDepth 100000 in
set_option maxHeartbeats 2000000 in
theorem iCountWith (w : World) (A : Option Addr) (n cap B : Nat) (xs : List Int) (hx : xs.length = n) (hn : (n : Int) ≤ 1048576) (h : RowB w B A xs) (hB : B ≤ w.heap.size) (hcap : A = none → n = 0 ∧ cap = 0) (x y : Int) (b : Bool) (hsx : Sm x) (hsy : Sm y) :
  Calls Try.prog 54 #[.agg #[.slice A n cap], .agg #[.int .i64 x, .int .i64 y, .bool b]] w (Num (withT xs x y b) w) := by
 have HCe := Lib.hid (fun W => iCells x y b hsx hsy W)
 obtain ⟨u, hu⟩ : ∃ u, u = sx x b := ⟨_, rfl⟩
 obtain ⟨v, hv⟩ : ∃ v, v = sy y b := ⟨_, rfl⟩
 have HIn := Lib.hid (fun h1 h2 => withT_in (xs := xs) hu hv h1 h2)
 have HOut := Lib.hid (fun h1 => withT_out (xs := xs) hu hv h1)
 rw [← hu, ← hv] at HCe
 clear hu hv hsx hsy
 generalize withT xs x y b = T at HIn HOut ⊢
 go_enter Try.func54, Try.ntmps54
 go_wp2_with fail
 refine (HCe.out _).mono ?_
 rintro e w1 ⟨rfl, hb1⟩
 have HH := Lib.hid (fun W (hb : Below w.heap.size w W) X Y => iHasCell W A n cap B xs hx (by omega) (h.below hb hB) (by have := hb.size; omega) X Y)
 have HW := Lib.hid (fun W (hb : Below w.heap.size w W) => iWithCell W A n cap B xs hx hn (h.below hb hB) (by have := hb.size; omega) hcap x y false)
 clear hx hn h hB hcap HCe
 go_upto_region 2 with fail
 have C2 := cw_start (u := u) (v := v) hb1
 generalize (w1.alloc (.cells #[.int .i64 x, .int .i64 y] 38)).alloc (.cells #[.int .i64 u, .int .i64 v] 38) = W2 at C2 ⊢
 generalize w1.heap.size + 1 = p2 at C2 ⊢
 generalize w1.heap.size = p1 at C2 ⊢
 clear hb1
 obtain ⟨cr, cx, cy, cu, cv⟩ := C2.cells
 go_wp2_with fail
 refine (HH.out _ C2.1 x y).mono ?_
 rintro e w3 ⟨rfl, hb3⟩
 have C3 := C2.on hb3
 clear C2 cr cx cy cu cv hb3
 cases h1 : hasB xs x y with
 | false =>
  have HE := Lib.hid (HOut.out (by rw [h1]; simp))
  clear HIn HOut
  go_wp2
  go_ret
  exact mkNum HE.out.symm C3.1
 | true =>
  obtain ⟨cr, cx, cy, cu, cv⟩ := C3.cells
  go_wp2_with fail
  refine (HH.out _ C3.1 u v).mono ?_
  rintro e w4 ⟨rfl, hb4⟩
  have C4 := C3.on hb4
  clear C3 cr cx cy cu cv hb4
  cases h2 : hasB xs u v with
  | false =>
   have HE := Lib.hid (HOut.out (by rw [h2]; simp))
   clear HIn HOut
   go_wp2
   go_ret
   exact mkNum HE.out.symm C4.1
  | true =>
   have HE := Lib.hid (HIn.out h1 h2)
   obtain ⟨_, _, hl8⟩ := with_len h1
   obtain ⟨_, hl9⟩ := with_len2 h1 h2
   clear HIn HOut h1 h2
   obtain ⟨cr, cx, cy, cu, cv⟩ := C4.cells
   go_wp2_with fail
   refine (HW.out _ C4.1).mono ?_
   rintro e w5 ⟨A2, c2, rfl, hown, hb5⟩
   have C5 := C4.on hb5
   clear C4 cr cx cy cu cv hb5 HW HH
   generalize withX xs x y false = xs2 at hown hl8 hl9 HE ⊢
   rw [hl8] at hown ⊢
   go_upto_region 5 with fail
   have hba := below_alloc1 w5 (.cells #[.slice A2 8 c2] 26)
   have hbl := heap_alloc_new w5 (.cells #[.slice A2 8 c2] 26)
   have C6 := C5.on hba
   have hown6 := own_below hown hba (Nat.le_refl _)
   generalize w5.alloc (.cells #[.slice A2 8 c2] 26) = W6 at hbl C6 hown6 ⊢
   have hp5w := C5.1.size
   generalize w5.heap.size = p5 at hbl hp5w ⊢
   clear hba hown C5
   obtain ⟨cr, cx, cy, cu, cv⟩ := C6.cells
   have c5 := (cellAt hbl 0).1.trans (show _ = some (Value.slice A2 8 c2) from rfl)
   go_wp2_with fail
   refine (iWithCell W6 A2 8 c2 W6.heap.size xs2 hl8 (by omega) (rowB_own hown6) (Nat.le_refl _) (own_some hown6 rfl) u v false).mono ?_
   rintro e w7 ⟨A3, c3, rfl, hown3, hb7⟩
   have hp5 := (Array.getElem?_eq_some_iff.1 hbl).1
   have hbl7 := (hb7.block p5 hp5).trans hbl
   have hbw := C6.1.trans (hb7.mono C6.1.size)
   have f7 := (cellAt hbl7 0).2
   have c7 := (cellAt hbl7 0).1.trans (show _ = some (Value.slice A2 8 c2) from rfl)
   generalize withX xs2 u v false = xs3 at hown3 hl9 HE ⊢
   rw [hl9] at hown3 ⊢
   have own8 := ownsRow_setCell_below hown3 (show (⟨p5, 0, none⟩ : Addr).block < W6.heap.size from hp5) (.slice A3 8 c3)
   have hb8 := hbw.setCell (p := ⟨p5, 0, none⟩) hp5w (.slice A3 8 c3)
   have c8 := World.cell?_setCell_same (w := w7) ⟨p5, 0, none⟩ (.slice A3 8 c3) c7
   have HO8 := Lib.hid own8
   have HB8 := Lib.hid hb8
   have HC8 := Lib.hid c8
   clear own8 hb8 c8 hown3 hb7 hbl7 hbw C6 cr cx cy cu cv c5 hown6 hbl
   go_upto_region 6 with fail
   have own8 := HO8.out
   have hb8 := HB8.out
   have c8 := HC8.out
   clear HO8 HB8 HC8 c7 f7
   generalize w7.setCell ⟨p5, 0, none⟩ (.slice A3 8 c3) = W8 at own8 hb8 c8 ⊢
   go_wp2_with fail
   refine (iCountTilings W8 A3 8 c3 W8.heap.size xs3 hl9 (by omega) (rowB_own own8) (Nat.le_refl _)).mono ?_
   rintro e w9 ⟨rfl, hb9⟩
   have hbw := hb8.trans (hb9.mono hb8.size)
   clear own8 hb8 c8 hb9
   go_wp2
   go_ret
   exact mkNum HE.out.symm hbw

theorem withT_dom {xs : List Int} {x y : Int} {b : Bool} (h : domB x y b = false) : withT xs x y b = 0 := by
 refine withT_out rfl rfl (fun q => ?_)
 obtain ⟨_, a0, a1, a2, a3, _⟩ := hasB_iff.1 q.1
 obtain ⟨_, b0, b1, b2, b3, _⟩ := hasB_iff.1 q.2
 have h1 : okB x y = true := okB_iff.2 (by unfold Ok; omega)
 have h2 : okB (sx x b) (sy y b) = true := okB_iff.2 (by unfold Ok; omega)
 unfold domB at h
 rw [h1, h2] at h; cases h
def DW (w : World) (vr : Value) (x y : Int) (b : Bool) (W : World) : Prop := Below ((w.alloc (.cells #[vr] 26)).alloc (.cells #[.int .i64 x, .int .i64 y, .bool b] 41)).heap.size ((w.alloc (.cells #[vr] 26)).alloc (.cells #[.int .i64 x, .int .i64 y, .bool b] 41)) W
theorem DW.cells {w W : World} {vr : Value} {x y : Int} {b : Bool} (h : DW w vr x y b W) : W.cell? ⟨w.heap.size + 1, 0, none⟩ = some (.int .i64 x) ∧ W.cell? ⟨w.heap.size + 1, 1, none⟩ = some (.int .i64 y) ∧ W.cell? ⟨w.heap.size + 1, 2, none⟩ = some (.bool b) := by
 have e0 : (w.alloc (.cells #[vr] 26)).heap.size = w.heap.size + 1 := by simp
 have h1 := heap_alloc_new (w.alloc (.cells #[vr] 26)) (.cells #[.int .i64 x, .int .i64 y, .bool b] 41)
 rw [e0] at h1
 have hb := (h.block (w.heap.size + 1) (by simp)).trans h1
 exact ⟨(cellAt hb 0).1.trans rfl, (cellAt hb 1).1.trans rfl, (cellAt hb 2).1.trans rfl⟩

set_option maxRecDepth 100000 in
set_option maxHeartbeats 2000000 in
theorem sCountWith (w : World) (A : Option Addr) (n cap B : Nat) (xs : List Int) (hx : xs.length = n) (hn : (n : Int) ≤ 1048576) (h : RowB w B A xs) (hB : B ≤ w.heap.size) (hcap : A = none → n = 0 ∧ cap = 0) (x y : Int) (b : Bool) :
  Calls Try.prog 21 #[.agg #[.slice A n cap], .agg #[.int .i64 x, .int .i64 y, .bool b]] w (Num (withT xs x y b) w) := by
 have HDo := Lib.hid (fun W => sDominoOk x y b W)
 cases hd : domB x y b with
 | false =>
  have HE := Lib.hid (withT_dom (xs := xs) hd)
  rw [hd] at HDo
  generalize withT xs x y b = T at HE ⊢
  clear hx hn h hB hcap hd
  have HB2 := Lib.hid (fun (o o' : Obj) => below_alloc2 w o o')
  go_enter Try.func21, Try.ntmps21
  go_wp2_with fail
  refine (HDo.out _).mono ?_
  rintro e w1 ⟨rfl, hb1⟩
  have hbw := (HB2.out _ _).trans (hb1.mono (by simp; omega))
  clear hb1 HB2
  go_wp2
  go_ret
  exact mkNum HE.out.symm hbw
 | true =>
 have HCe := Lib.hid (fun W => sCellsUnder_ok x y b hd W)
 rw [hd] at HDo
 clear hd
 obtain ⟨u, hu⟩ : ∃ u, u = sx x b := ⟨_, rfl⟩
 obtain ⟨v, hv⟩ : ∃ v, v = sy y b := ⟨_, rfl⟩
 have HIn := Lib.hid (fun h1 h2 => withT_in (xs := xs) hu hv h1 h2)
 have HOut := Lib.hid (fun h1 => withT_out (xs := xs) hu hv h1)
 rw [← hu, ← hv] at HCe
 clear hu hv
 generalize withT xs x y b = T at HIn HOut ⊢
 have HH := Lib.hid (fun W (hb : Below w.heap.size w W) X Y => sHasCell W A n cap B xs hx (by omega) (h.below hb hB) (by have := hb.size; omega) X Y)
 have HW := Lib.hid (fun W (hb : Below w.heap.size w W) => sWithCell W A n cap B xs hx hn (h.below hb hB) (by have := hb.size; omega) hcap x y false)
 clear hx hn h hB hcap
 have T0 := Lib.hid (show DW w (.slice A n cap) x y b _ from Below.refl _ _)
 go_enter Try.func21, Try.ntmps21
 go_wp2_with fail
 refine (HDo.out _).mono ?_
 rintro e w0 ⟨rfl, hb0⟩
 have D0 : DW w (.slice A n cap) x y b w0 := hb0
 clear hb0 HDo T0
 obtain ⟨d0, d1, d2⟩ := D0.cells
 go_wp2_with fail
 refine (HCe.out _).mono ?_
 rintro e w1 ⟨rfl, hb1'⟩
 have hb1 : DW w (.slice A n cap) x y b w1 := Below.trans D0 (hb1'.mono D0.size)
 clear d0 d1 d2 D0 hb1' HCe
 go_upto_region 4 with fail
 have C2 := cw_start (u := u) (v := v) hb1
 generalize (w1.alloc (.cells #[.int .i64 x, .int .i64 y] 38)).alloc (.cells #[.int .i64 u, .int .i64 v] 38) = W2 at C2 ⊢
 generalize w1.heap.size + 1 = p2 at C2 ⊢
 generalize w1.heap.size = p1 at C2 ⊢
 clear hb1
 obtain ⟨cr, cx, cy, cu, cv⟩ := C2.cells
 go_wp2_with fail
 refine (HH.out _ C2.1 x y).mono ?_
 rintro e w3 ⟨rfl, hb3⟩
 have C3 := C2.on hb3
 clear C2 cr cx cy cu cv hb3
 cases h1 : hasB xs x y with
 | false =>
  have HE := Lib.hid (HOut.out (by rw [h1]; simp))
  clear HIn HOut
  go_wp2
  go_ret
  exact mkNum HE.out.symm C3.1
 | true =>
  obtain ⟨cr, cx, cy, cu, cv⟩ := C3.cells
  go_wp2_with fail
  refine (HH.out _ C3.1 u v).mono ?_
  rintro e w4 ⟨rfl, hb4⟩
  have C4 := C3.on hb4
  clear C3 cr cx cy cu cv hb4
  cases h2 : hasB xs u v with
  | false =>
   have HE := Lib.hid (HOut.out (by rw [h2]; simp))
   clear HIn HOut
   go_wp2
   go_ret
   exact mkNum HE.out.symm C4.1
  | true =>
   have HE := Lib.hid (HIn.out h1 h2)
   obtain ⟨_, _, hl8⟩ := with_len h1
   obtain ⟨ho9, hl9⟩ := with_len2 h1 h2
   clear HIn HOut h1 h2
   obtain ⟨cr, cx, cy, cu, cv⟩ := C4.cells
   go_wp2_with fail
   refine (HW.out _ C4.1).mono ?_
   rintro e w5 ⟨A2, c2, rfl, hown, hb5⟩
   have C5 := C4.on hb5
   clear C4 cr cx cy cu cv hb5 HW HH
   generalize withX xs x y false = xs2 at hown hl8 hl9 ho9 HE ⊢
   rw [hl8] at hown ⊢
   go_upto_region 7 with fail
   have hba := below_alloc1 w5 (.cells #[.slice A2 8 c2] 26)
   have hbl := heap_alloc_new w5 (.cells #[.slice A2 8 c2] 26)
   have C6 := C5.on hba
   have hown6 := own_below hown hba (Nat.le_refl _)
   generalize w5.alloc (.cells #[.slice A2 8 c2] 26) = W6 at hbl C6 hown6 ⊢
   generalize w5.heap.size = p5 at hbl ⊢
   clear hba hown C5
   obtain ⟨cr, cx, cy, cu, cv⟩ := C6.cells
   have c5 := (cellAt hbl 0).1.trans (show _ = some (Value.slice A2 8 c2) from rfl)
   go_wp2_with fail
   refine (sWithCell W6 A2 8 c2 W6.heap.size xs2 hl8 (by omega) (rowB_own hown6) (Nat.le_refl _) (own_some hown6 rfl) u v false).mono ?_
   rintro e w7 ⟨A3, c3, rfl, hown3, hb7⟩
   have hbw := C6.1.trans (hb7.mono C6.1.size)
   have HT := Lib.hid (tilesR_ok ho9)
   have HO9 := Lib.hid ho9
   clear ho9
   generalize withX xs2 u v false = xs3 at hown3 hl9 HE HT HO9 ⊢
   rw [hl9] at hown3 ⊢
   clear C6 cr cx cy cu cv c5 hown6 hbl hb7
   go_upto_region 8 with fail
   have hba := below_alloc1 w7 (.cells #[.slice A3 8 c3] 26)
   have hbl := heap_alloc_new w7 (.cells #[.slice A3 8 c3] 26)
   have own8 := own_below hown3 hba (Nat.le_refl _)
   have hb8 := hbw.trans (hba.mono hbw.size)
   generalize w7.alloc (.cells #[.slice A3 8 c3] 26) = W8 at hbl own8 hb8 ⊢
   generalize w7.heap.size = p7 at hbl ⊢
   have c8 := (cellAt hbl 0).1.trans (show _ = some (Value.slice A3 8 c3) from rfl)
   clear hba hown3 hbw
   go_wp2_with fail
   refine (sCount W8 A3 8 c3 W8.heap.size xs3 hl9 HO9.out (rowB_own own8) (Nat.le_refl _)).mono ?_
   rintro e w9 ⟨rfl, hb9⟩
   have hbw := hb8.trans (hb9.mono hb8.size)
   clear own8 hb8 c8 hb9 hbl
   go_wp2
   go_ret
   exact mkNum (by rw [HE.out, HT.out]) hbw
end Go.Proofs.Ytjfagpmklifjlaa.Prof

namespace Go.Proofs.Ytjfagpmklifjlaa.Fr
set_option linter.unusedVariables false
set_option linter.unusedSimpArgs false
open Go.RowKit Go.Proofs.Ytjfagpmklifjlaa.Pure Go.Proofs.Ytjfagpmklifjlaa.Cell Go.Proofs.Ytjfagpmklifjlaa.Cnt Go.Proofs.Ytjfagpmklifjlaa.Dom Go.Proofs.Ytjfagpmklifjlaa.Dms Go.Proofs.Ytjfagpmklifjlaa.Til Go.Joins
open Go.Proofs.Ytjfagpmklifjlaa.Lis (allT all_til all_length)
open Go.Proofs.Ytjfagpmklifjlaa.Prof (withT)

def cW (xs : List Int) (d : Dm) : Int := withT xs d.1 d.2.1 d.2.2
theorem cW_ok {xs : List Int} (ok : okR xs) (d : Dm) : cW xs d = cntD xs d := by
 by_cases hd : okM d = true
 ·rw [← withT_cnt ok hd]; rfl
 ·unfold cW withT
  rw [if_neg, cntD, hold_none ok (fun h => hd h.1)]; rfl
  rintro ⟨h1, h2⟩
  obtain ⟨_, a0, a1, a2, a3, _⟩ := hasB_iff.1 h1
  obtain ⟨_, b0, b1, b2, b3, _⟩ := hasB_iff.1 h2
  apply hd
  unfold okM domB
  rw [Bool.and_eq_true, okB_iff, okB_iff]
  unfold Ok
  omega
theorem cW_not {xs : List Int} (ok : ¬ okR xs) (d : Dm) : cW xs d = 0 := by
 unfold cW withT
 rw [if_neg]
 rintro ⟨h1, _⟩
 exact ok (hasB_iff.1 h1).1
def bothL : List (Int × Int) → List Dm
 | [] => []
 | c :: r => (c.1, c.2, false) :: (c.1, c.2, true) :: bothL r
theorem both_len : ∀ (C : List (Int × Int)), (bothL C).length = 2 * C.length
 | [] => rfl
 | c :: r => by rw [bothL, List.length_cons, List.length_cons, both_len r, List.length_cons]; omega
theorem both_at : ∀ (C : List (Int × Int)) (j i : Nat) (hj : j < C.length), i < 2 → (bothL C)[2 * j + i]? = some (C[j].1, C[j].2, decide (i = 1))
 | [], j, i, hj, _ => absurd hj (by simp)
 | c :: r, 0, 0, _, _ => rfl
 | c :: r, 0, 1, _, _ => rfl
 | c :: r, 0, i + 2, _, h => by omega
 | c :: r, j + 1, i, hj, hi => by
  have := both_at r j i (by simpa using hj) hi
  rw [bothL, show 2 * (j + 1) + i = (2 * j + i) + 1 + 1 by omega, List.getElem?_cons_succ, List.getElem?_cons_succ, this]
  rfl
theorem mem_both : ∀ {C : List (Int × Int)} {d : Dm}, d ∈ bothL C ↔ (d.1, d.2.1) ∈ C
 | [], d => by simp [bothL]
 | c :: r, d => by
  obtain ⟨x, y, b⟩ := d
  rw [bothL, List.mem_cons, List.mem_cons, mem_both, List.mem_cons]
  obtain ⟨u, v⟩ := c
  simp only [Prod.mk.injEq]
  cases b <;> simp
def preL (p : Dm → Bool) (C : List (Int × Int)) (k : Nat) : List Dm := ((bothL C).take k).filter p
theorem preL_zero (p : Dm → Bool) (C : List (Int × Int)) : preL p C 0 = [] := rfl
theorem preL_all (p : Dm → Bool) {C : List (Int × Int)} {k : Nat} (hk : k = 2 * C.length) : preL p C k = (bothL C).filter p := by
 unfold preL; rw [List.take_of_length_le (by rw [both_len, hk]; exact Nat.le_refl _)]
theorem preL_step (p : Dm → Bool) {C : List (Int × Int)} {j i : Nat} (hj : j < C.length) (hi : i < 2) {d : Dm} (hd : d = (C[j].1, C[j].2, decide (i = 1))) :
  preL p C (2 * j + i + 1) = preL p C (2 * j + i) ++ if p d = true then [d] else [] := by
 have h := both_at C j i hj hi
 rw [← hd] at h
 obtain ⟨hl, he⟩ := List.getElem?_eq_some_iff.1 h
 unfold preL
 rw [List.take_succ_eq_append_getElem hl, List.filter_append, he]
 cases hp : p d <;> simp [hp]
theorem preL_yes (p : Dm → Bool) {C : List (Int × Int)} {j i : Nat} (hj : j < C.length) (hi : i < 2) {d : Dm} (hd : d = (C[j].1, C[j].2, decide (i = 1))) (hp : p d = true) : preL p C (2 * j + i + 1) = preL p C (2 * j + i) ++ [d] := by
 rw [preL_step p hj hi hd, if_pos hp]
theorem preL_no (p : Dm → Bool) {C : List (Int × Int)} {j i : Nat} (hj : j < C.length) (hi : i < 2) {d : Dm} (hd : d = (C[j].1, C[j].2, decide (i = 1))) (hp : p d = false) : preL p C (2 * j + i + 1) = preL p C (2 * j + i) := by
 rw [preL_step p hj hi hd, if_neg (by rw [hp]; simp), List.append_nil]
theorem both_atD (xs : List Int) : ∀ C : List (Int × Int), (bothL C).filter (fitD xs) = C.flatMap (atD xs)
 | [] => rfl
 | c :: r => by
  rw [bothL, List.flatMap_cons, ← both_atD xs r, atD]
  rw [List.filter_cons, List.filter_cons, List.filter_cons, List.filter_cons, List.filter_nil]
  cases fitD xs (c.1, c.2, false) <;> cases fitD xs (c.1, c.2, true) <;> rfl
theorem all_both (xs : List Int) : allD xs = (bothL (cellsR xs)).filter (fitD xs) := (both_atD xs _).symm
def candP (xs : List Int) : List Dm := (bothL (cellsR xs)).filter fun d => decide (0 < cW xs d)
theorem mem_cand {xs : List Int} {d : Dm} : d ∈ candP xs ↔ d ∈ possD xs := by
 unfold candP possD
 rw [List.mem_filter, mem_both]
 by_cases ok : okR xs
 ·rw [if_pos ok, List.mem_filter, decide_eq_true_eq, decide_eq_true_eq, cW_ok ok]
  constructor
  ·rintro ⟨_, h⟩
   refine ⟨?_, h⟩
   unfold cntD at h
   obtain ⟨L, hL⟩ := List.exists_mem_of_length_pos (l := holdT xs [d]) (by omega)
   obtain ⟨a, b⟩ := (mem_hold ok).1 hL
   exact til_allD a d (b d (List.mem_singleton.2 rfl))
  ·rintro ⟨h1, h2⟩
   refine ⟨?_, h2⟩
   rw [all_both, List.mem_filter, mem_both] at h1
   exact h1.1
 ·rw [if_neg ok, cW_not ok]
  simp
def inT (xs : List Int) (n : Int) : List Dm := (possD xs).filter fun d => decide (n ≤ cW xs d)
theorem possD_inc (xs : List Int) : Inc (possD xs) := (possD_poss xs).1
theorem possD_ok {xs : List Int} {d : Dm} (h : d ∈ possD xs) : okR xs ∧ okM d = true ∧ 0 < cW xs d := by
 by_cases ok : okR xs
 ·unfold possD at h
  rw [if_pos ok, List.mem_filter, decide_eq_true_eq] at h
  exact ⟨ok, (fit_ok (mem_allD.1 h.1).2).1, by rw [cW_ok ok]; exact h.2⟩
 ·unfold possD at h
  rw [if_neg ok] at h
  cases h
theorem inT_one (xs : List Int) : inT xs 1 = possD xs := by
 unfold inT
 exact List.filter_eq_self.2 fun d hd => decide_eq_true (by have := (possD_ok hd).2.2; omega)
theorem cnt_le {xs : List Int} (d : Dm) : cntD xs d ≤ ((allT xs).length : Int) := by
 unfold cntD holdT
 have := List.length_filter_le (fun L => [d].all fun e => decide (e ∈ L)) (allT xs)
 omega
theorem tiles_not {xs : List Int} (ok : ¬ okR xs) : tilesR xs = 0 := by
 unfold tilesR; rw [if_neg ok]
theorem tiles_none {xs : List Int} (h : tilesR xs = 0) : possD xs = [] := by
 refine List.eq_nil_iff_forall_not_mem.2 fun d hd => ?_
 obtain ⟨ok, _, h2⟩ := possD_ok hd
 rw [cW_ok ok] at h2
 have := cnt_le (xs := xs) d
 rw [tiles_cnt ok] at h
 omega
theorem inT_all (xs : List Int) : inT xs (tilesR xs) = forcD xs := by
 by_cases h : okR xs ∧ 0 < (allT xs).length
 ·unfold inT forcD possD
  rw [if_pos h, if_pos h.1, List.filter_filter]
  refine List.filter_congr fun d hd => ?_
  rw [cW_ok h.1, tiles_cnt h.1, Bool.eq_iff_iff, Bool.and_eq_true, decide_eq_true_eq, decide_eq_true_eq, decide_eq_true_eq]
  have := cnt_le (xs := xs) d
  have := h.2
  omega
 ·have h0 : tilesR xs = 0 := by
   by_cases ok : okR xs
   ·rw [tiles_cnt ok]
    have : ¬ 0 < (allT xs).length := fun q => h ⟨ok, q⟩
    omega
   ·exact tiles_not ok
  unfold inT forcD
  rw [if_neg h, tiles_none h0]; rfl
theorem mem_inT {xs : List Int} {n : Int} {d : Dm} : d ∈ inT xs n ↔ d ∈ candP xs ∧ n ≤ cW xs d := by
 unfold inT
 rw [List.mem_filter, decide_eq_true_eq, mem_cand]
theorem inT_sort {xs : List Int} {n : Int} {R : List Dm} (h : ∀ d, d ∈ R ↔ d ∈ candP xs ∧ n ≤ cW xs d) : sortM R = inT xs n :=
 sortM_of ((possD_inc xs).filter _) fun d => by
  rw [h, mem_inT]
  exact ⟨fun q => ⟨q, (possD_ok (mem_cand.1 q.1)).2.1⟩, fun q => q.1⟩
theorem cand_fits {xs : List Int} {d : Dm} (h : d ∈ candP xs) : (0 ≤ d.1 ∧ d.1 ≤ 7 ∧ 0 ≤ d.2.1 ∧ d.2.1 ≤ 7) := (second_in (possD_ok (mem_cand.1 h)).2.1).1
theorem poss_fits {xs : List Int} (ok : okR xs) : (allD xs).filter (fun d => decide (0 < cW xs d)) = possD xs := by
 unfold possD
 rw [if_pos ok]
 refine List.filter_congr fun d hd => by rw [cW_ok ok]
theorem allD_len (xs : List Int) : (allD xs).length ≤ 128 := by
 rw [all_both]
 refine Nat.le_trans (List.length_filter_le _ _) ?_
 rw [both_len]
 have := cellsR_length xs
 omega
end Go.Proofs.Ytjfagpmklifjlaa.Fr

namespace Go.Proofs.Ytjfagpmklifjlaa.Til
set_option linter.unusedVariables false
set_option linter.unusedSimpArgs false
open Go.RowKit Go.Proofs.Ytjfagpmklifjlaa.Cell Go.Proofs.Ytjfagpmklifjlaa.Dom Go.Proofs.Ytjfagpmklifjlaa.Dms Go.Joins

def Bc (w : World) (x y : Int) (W : World) : Prop := Below w.heap.size w W ∧ At2 W w.heap.size x y
theorem bc_start (x y : Int) (w : World) : Bc w x y (w.alloc (.cells #[.int .i64 x, .int .i64 y] 38)) := ⟨below_alloc1 w _, At2.new w x y⟩
theorem Bc.on {w W W' : World} {x y : Int} (h : Bc w x y W) (hb : Below W.heap.size W W') : Bc w x y W' := ⟨h.1.trans (hb.mono h.1.size), h.2.on hb⟩
def Miss (L : List Dm) (x y : Int) (k : Nat) : Prop := ∀ j e, j < k → L[j]? = some e → covM e x y = false
theorem Miss.zero (L : List Dm) (x y : Int) : Miss L x y 0 := fun j e h => by omega
theorem Miss.succ {L : List Dm} {x y : Int} {k : Nat} (h : Miss L x y k) {d : Dm} (hd : L[k]? = some d) (hc : covM d x y = false) : Miss L x y (k + 1) := by
 intro j e hj he
 by_cases hjk : j = k
 ·subst hjk; rw [hd] at he; injection he with he; subst he; exact hc
 ·exact h j e (by omega) he
theorem Miss.hit {L : List Dm} {x y : Int} {k : Nat} (h : Miss L x y k) {d : Dm} (hd : L[k]? = some d) (hc : covM d x y = true) : atI L x y = (k : Int) := atI_hit h hd hc
theorem Miss.all {L : List Dm} {x y : Int} (h : Miss L x y L.length) : atI L x y = -1 := atI_miss h

set_option maxRecDepth 100000 in
set_option maxHeartbeats 1000000 in
theorem iDominoAt (w : World) (A : Option Addr) (n cap B : Nat) (L : List Dm) (hL : L.length = n) (hn : (n : Int) ≤ 9223372036854775807) (hf : Fits L) (h : RowM w B A L) (hB : B ≤ w.heap.size) (x y : Int) :
  Calls Try.prog 81 #[.slice A n cap, .agg #[.int .i64 x, .int .i64 y]] w (Num (atI L x y) w) := by
 obtain ⟨b0, off, h1, h2⟩ := h.at
 have HA := Lib.hid (fun hp => h1 hp)
 have HC := Lib.hid h2
 have HL := Lib.hid hL
 have HF := Lib.hid hf
 have HB := Lib.hid hB
 have HS := Lib.hid (bc_start x y w)
 clear h h1 h2 hL hf hB
 go_enter Try.func81, Try.ntmps81
 go_wp2_with fail
 go_loopw [9] (fun i wr => ∃ j : Nat, j ≤ n ∧ i = .int .i64 j ∧ Bc w x y wr ∧ Hid (Miss L x y j)) (fun i _ => n - (intOf i).toNat)
 case atStart => exact ⟨0, Nat.zero_le _, rfl, HS.out, Lib.hid (Miss.zero _ _ _)⟩
 case round =>
  clear HS
  obtain ⟨j, hj, rfl, hT, hM⟩ := hrel
  have hbs := hT.1.size
  by_cases hlt : j < n
  ·have hjL : j < L.length := by have := HL.out; omega
   obtain ⟨rfl, hbB⟩ := HA.out (by omega)
   obtain ⟨c0, c1, c2⟩ := HC.out j hjL
   have hbw : b0 < w.heap.size := by have := HB.out; omega
   have c0 := (hT.1.cell (p := ⟨b0, off + j * 3, none⟩) hbw).trans c0
   have c1 := (hT.1.cell (p := ⟨b0, off + j * 3 + 1, none⟩) hbw).trans c1
   have c2 := (hT.1.cell (p := ⟨b0, off + j * 3 + 2, none⟩) hbw).trans c2
   obtain ⟨f1, f2⟩ := HF.out L[j] (List.getElem_mem hjL)
   have HD := Lib.hid (List.getElem?_eq_getElem (l := L) hjL)
   generalize L[j] = d at c0 c1 c2 f1 f2 HD
   obtain ⟨u, v, b⟩ := d
   simp only at c0 c1 c2 f1 f2
   have HO := Lib.hid (fun W => iDominoOk u v b f1 f2 W)
   have HV := Lib.hid (fun W => iCovers u v b f1 f2 x y W)
   have HK := Lib.hid (show covM (u, v, b) x y = (domB u v b && (eqB x y u v || eqB x y (sx u b) (sy v b))) from rfl)
   generalize domB u v b = p at HO HK
   generalize (eqB x y u v || eqB x y (sx u b) (sy v b)) = r at HV HK
   have HT := Lib.hid hT
   clear f1 f2 hT hbs
   go_wp2_with fail
   refine (HO.out _).mono ?_
   rintro e w1 ⟨rfl, hb1⟩
   obtain ⟨hbw1, K1⟩ := bx3 u v b wr w1 hb1
   have T1 := HT.out.on hbw1
   have k0 := K1.c0
   have k1 := K1.c1
   have k2 := K1.c2
   have k3 := T1.2.c0
   have k4 := T1.2.c1
   clear hb1 HO K1 HT hbw1
   cases p with
   | false =>
    have HM := Lib.hid (hM.out.succ HD.out (by rw [HK.out]; rfl))
    clear k0 k1 k2 k3 k4 HV HK hM HD
    go_wp2
    go_roundw
    case rel => exact ⟨j + 1, by omega, by go_num, T1, HM⟩
    case measure => (simp [intOf] <;> omega)
   | true =>
    go_wp2_with fail
    refine (HV.out _).mono ?_
    rintro e w2 ⟨rfl, hb2⟩
    have T2 := T1.on hb2
    clear k0 k1 k2 k3 k4 T1 hb2 HV
    cases r with
    | true =>
     have HE := Lib.hid (hM.out.hit HD.out (by rw [HK.out]; rfl))
     go_wp2
     go_ret
     rw [HE.out]
     exact ⟨rfl, T2.1⟩
    | false =>
     have HM := Lib.hid (hM.out.succ HD.out (by rw [HK.out]; rfl))
     clear HK hM HD
     go_wp2
     go_roundw
     case rel => exact ⟨j + 1, by omega, by go_num, T2, HM⟩
     case measure => (simp [intOf] <;> omega)
  ·obtain rfl : j = n := by omega
   have HE := Lib.hid (show atI L x y = -1 from Miss.all (by rw [HL.out]; exact hM.out))
   go_wp2
   go_ret
   rw [HE.out]
   exact ⟨rfl, hT.1⟩
set_option maxRecDepth 100000 in
set_option maxHeartbeats 1000000 in
theorem sDominoAt (w : World) (A : Option Addr) (n cap B : Nat) (L : List Dm) (hL : L.length = n) (hn : (n : Int) ≤ 9223372036854775807) (h : RowM w B A L) (hB : B ≤ w.heap.size) (x y : Int) :
  Calls Try.prog 18 #[.slice A n cap, .agg #[.int .i64 x, .int .i64 y]] w (Num (atI L x y) w) := by
 obtain ⟨b0, off, h1, h2⟩ := h.at
 have HA := Lib.hid (fun hp => h1 hp)
 have HC := Lib.hid h2
 have HL := Lib.hid hL
 have HB := Lib.hid hB
 have HS := Lib.hid (bc_start x y w)
 clear h h1 h2 hL hB
 go_enter Try.func18, Try.ntmps18
 go_wp2_with fail
 go_loopw [5] (fun i wr => ∃ j : Nat, j ≤ n ∧ i = .int .i64 j ∧ Bc w x y wr ∧ Hid (Miss L x y j)) (fun i _ => n - (intOf i).toNat)
 case atStart => exact ⟨0, Nat.zero_le _, rfl, HS.out, Lib.hid (Miss.zero _ _ _)⟩
 case round =>
  clear HS
  obtain ⟨j, hj, rfl, hT, hM⟩ := hrel
  have hbs := hT.1.size
  by_cases hlt : j < n
  ·have hjL : j < L.length := by have := HL.out; omega
   obtain ⟨rfl, hbB⟩ := HA.out (by omega)
   obtain ⟨c0, c1, c2⟩ := HC.out j hjL
   have hbw : b0 < w.heap.size := by have := HB.out; omega
   have c0 := (hT.1.cell (p := ⟨b0, off + j * 3, none⟩) hbw).trans c0
   have c1 := (hT.1.cell (p := ⟨b0, off + j * 3 + 1, none⟩) hbw).trans c1
   have c2 := (hT.1.cell (p := ⟨b0, off + j * 3 + 2, none⟩) hbw).trans c2
   have HD := Lib.hid (List.getElem?_eq_getElem (l := L) hjL)
   generalize L[j] = d at c0 c1 c2 HD
   obtain ⟨u, v, b⟩ := d
   simp only at c0 c1 c2
   have HO := Lib.hid (fun W => sDominoOk u v b W)
   have HU := Lib.hid (fun hd W => sCellsUnder_ok u v b hd W)
   have HK := Lib.hid (show covM (u, v, b) x y = (domB u v b && (eqB x y u v || eqB x y (sx u b) (sy v b))) from rfl)
   generalize domB u v b = p at HO HU HK
   generalize sx u b = m at HU HK
   generalize sy v b = q at HU HK
   have HT := Lib.hid hT
   go_wp2_with fail
   refine (HO.out _).mono ?_
   rintro e w1 ⟨rfl, hb1⟩
   have T1 := HT.out.on hb1
   clear HO HT hT hbs
   cases p with
   | false =>
    have HM := Lib.hid (hM.out.succ HD.out (by rw [HK.out]; rfl))
    clear c0 c1 c2 HU HK hM HD hb1
    go_wp2
    go_roundw
    case rel => exact ⟨j + 1, by omega, by go_num, T1, HM⟩
    case measure => (simp [intOf] <;> omega)
   | true =>
    have hwr : b0 < wr.heap.size := World.block_lt_of_cell? _ _ c0
    have c0 := (hb1.cell (p := ⟨b0, off + j * 3, none⟩) hwr).trans c0
    have c1 := (hb1.cell (p := ⟨b0, off + j * 3 + 1, none⟩) hwr).trans c1
    have c2 := (hb1.cell (p := ⟨b0, off + j * 3 + 2, none⟩) hwr).trans c2
    clear hb1
    go_wp2_with fail
    refine (HU.out trivial _).mono ?_
    rintro e w2 ⟨rfl, hb2⟩
    have T2 := T1.on hb2
    clear c0 c1 c2 T1 hb2 HU
    go_upto_region 6 with fail
    obtain ⟨k1, k2, k3⟩ := at2_two w2 u v m q
    have T3 := T2.on k3
    generalize (w2.alloc (.cells #[.int .i64 u, .int .i64 v] 38)).alloc (.cells #[.int .i64 m, .int .i64 q] 38) = W at k1 k2 T3 ⊢
    have c0 := k1.c0
    have c1 := k1.c1
    have c2 := k2.c0
    have c3 := k2.c1
    have c4 := T3.2.c0
    have c5 := T3.2.c1
    have HY := Lib.hid (fun (hh : (u = x ∧ v = y) ∨ (m = x ∧ q = y)) => hM.out.hit HD.out (by rw [HK.out]; simp [eqB_iff]; rcases hh with ⟨rfl, rfl⟩ | ⟨rfl, rfl⟩ <;> simp))
    have HN := Lib.hid (fun (hh : ¬ ((u = x ∧ v = y) ∨ (m = x ∧ q = y))) => hM.out.succ HD.out (by rw [HK.out, Bool.true_and, Bool.eq_false_iff]; intro hc; simp only [Bool.or_eq_true, eqB_iff] at hc; exact hh (by omega)))
    have HT3 := Lib.hid T3
    clear k1 k2 k3 T2 T3 HK hM HD
    go_wp2
    all_goals first
     | (go_ret; rw [HY.out (by omega)]; exact ⟨rfl, HT3.out.1⟩)
     | (refine ⟨⟨j + 1, by omega, by go_num, HT3.out, Lib.hid (HN.out (by omega))⟩, ?_⟩; simp [intOf] <;> omega)
  ·obtain rfl : j = n := by omega
   have HE := Lib.hid (show atI L x y = -1 from Miss.all (by rw [HL.out]; exact hM.out))
   go_wp2
   go_ret
   rw [HE.out]
   exact ⟨rfl, hT.1⟩
end Go.Proofs.Ytjfagpmklifjlaa.Til
