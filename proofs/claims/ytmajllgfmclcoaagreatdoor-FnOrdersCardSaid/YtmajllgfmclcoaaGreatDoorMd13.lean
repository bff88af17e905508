/- RegCl, FlJ in one text. -/
import Derived.Test.YtmajllgfmclcoaaGreatDoorMd09
import Derived.Test.YtmajllgfmclcoaaGreatDoorMd12
import Derived.Deep.DeepAppendRoom
import Derived.Test.YtmajllgfmclcoaaGreatDoorMd11
set_option linter.unusedVariables false
namespace Go.Proofs.YtmajllgfmclcoaaGreatDoor.Reg
open Go.RowKit Base Go.Proofs.YtmajllgfmclcoaaGreatDoor.Pure Go.Proofs.YtmajllgfmclcoaaGreatDoor.Cell Cels Go.Joins
theorem cellsTo_yes' {xs : List Int} {y x : Nat} (hx : x < 8) (h : bitB (rowD xs y) x = true) : cellsTo xs (y * 8 + x + 1) = cellsTo xs (y * 8 + x) ++ [((x : Int), (y : Int))] := by
 have e1 : (y * 8 + x) / 8 = y := by omega
 have e2 : (y * 8 + x) % 8 = x := by omega
 rw [cellsTo_yes (by rw [e1, e2]; exact h), e1, e2]
theorem cellsTo_no' {xs : List Int} {y x : Nat} (hx : x < 8) (h : bitB (rowD xs y) x = false) : cellsTo xs (y * 8 + x + 1) = cellsTo xs (y * 8 + x) := by
 have e1 : (y * 8 + x) / 8 = y := by omega
 have e2 : (y * 8 + x) % 8 = x := by omega
 rw [cellsTo_no (by rw [e1, e2]; exact h)]
theorem at_nat {k : Nat} (hk : k < 64) : atX (k : Int) = ((k % 8 : Nat) : Int) ∧ atY (k : Int) = ((k / 8 : Nat) : Int) := by
 obtain ⟨a, b, _⟩ := at_in (n := (k : Int)) (by omega) (by omega)
 rw [a, b]; constructor <;> omega
set_option maxRecDepth 100000 in
set_option maxHeartbeats 2000000 in
theorem sCellsOf (w : World) (A : Option Addr) (n cap B : Nat) (xs : List Int) (hx : xs.length = n) (hn : (n : Int) ≤ 9223372036854775807) (h : RowB w B A xs) (hB : B ≤ w.heap.size) :
  Calls Tryz.prog 66 #[.agg #[.slice A n cap]] w (NbPost (cellsR xs) w) := by
 obtain ⟨i0, hi, hz0, hz1, hz2⟩ := info_parts cellInfo
 have HM := Lh (fun (W : World) => World.ownsRow_made (e := 79) (size := 2) W #[] 0 NR (by unfold maxLen; omega) rfl)
 have HB := Lh (fun (T : TypeId) => (rb_start (T := T) (.slice A n cap) w).2.2)
 have HW := Lh (fun (T : TypeId) => below_alloc1 w (.cells #[.slice A n cap] T))
 have HOk := Lh (fun W (hb : Below w.heap.size w W) => sRegionOk W A n cap B xs hx hn (h.below hb hB) (by have := hb.size; omega))
 have HHs := Lh (fun W (ho : okR xs) (hb : Below w.heap.size w W) x y hx8 hy8 => sHas W A n cap B xs hx ho (h.below hb hB) (by have := hb.size; omega) x y hx8 hy8)
 clear hx hn h hB
 go_enter Tryz.func66, Tryz.ntmps66
 go_wp2_with fail
 have HW1 := Lh (show Below (w.heap.size + 1) (w.alloc (.cells #[.slice A n cap] 26)) ((w.alloc (.cells #[.slice A n cap] 26)).alloc (.cells #[] 79)) from (Below.refl _ _).alloc (by simp) _)
 have HO := Lh (own_base (B' := w.heap.size + 1) (HM.out (w.alloc (.cells #[.slice A n cap] 26))) (by simp))
 have hW0 : (w.alloc (.cells #[.slice A n cap] 26)).heap.size = w.heap.size + 1 := by simp
 have HB0 := Lh (HB.out 26)
 have HBw := Lh (HW.out 26)
 clear HM HB HW
 obtain ⟨W0, hW⟩ : ∃ W0, W0 = w.alloc (.cells #[.slice A n cap] 26) := ⟨_, rfl⟩
 rw [← hW] at HW1 HO hW0 HB0 HBw
 rw [hW0] at HO
 by_cases ho : okR xs
 ·rw [okRB_of ho] at HOk
  have HE := Lh (cellsR_ok ho)
  have HHs := Lh (fun W hb x y hx8 hy8 => HHs.out W ho hb x y hx8 hy8)
  clear ho
  go_loopw [3, 4] (fun v i wr => ∃ k : Nat, k ≤ 64 ∧ i = .int .i64 k ∧ wr.ownsRow (w.heap.size + 1) 79 2 v (cellsTo xs k).length (rowC (cellsTo xs k)) ∧ Below (w.heap.size + 1) W0 wr) (fun _ i _ => 64 - (intOf i).toNat)
  case atStart => exact ⟨0, Nat.zero_le _, rfl, by rw [hW] at HO; simpa [cellsTo, rowC] using HO.out, by rw [hW] at HW1 ⊢; exact HW1.out⟩
  case round =>
   clear HW1 HO
   obtain ⟨k, hk, rfl, hown, hb⟩ := hrel
   have hbs := hb.size
   rw [hW0] at hbs
   by_cases hlt : k < 64
   ·have hbw := HBw.out.trans (hb.mono (by omega))
    have hc0 := (hb.cell (p := ⟨w.heap.size, 0, none⟩) (by show w.heap.size < _; omega)).trans HB0.out
    go_wp2_with fail
    refine (HOk.out wr hbw).mono ?_
    rintro e w0 ⟨rfl, hbk⟩
    have hown := own_below hown hbk NR
    have hb := hb.trans (hbk.mono (by omega))
    have hbs0 := hbk.size
    clear hbk hc0 hbw
    go_wp2_with fail
    refine (sCellAt k _).mono ?_
    rintro e w1 ⟨rfl, hb1⟩
    have hown1 := own_below hown hb1 NR
    have hbb := hb.trans (hb1.mono (by omega))
    have hb1s := hb1.size
    have hc0 := (hbb.cell (p := ⟨w.heap.size, 0, none⟩) (by show w.heap.size < _; omega)).trans HB0.out
    have hz : w.heap.size < w1.heap.size := by omega
    have hbw := HBw.out.trans (hbb.mono (by omega))
    have HOwn := Lh hown1
    have HBB := Lh hbb
    have HS := Lh hb1s
    have HS0 := Lh hbs0
    have HBs := Lh hbs
    obtain ⟨hax, hay⟩ := at_nat hlt
    rw [hax, hay]
    have HC := Lh (HHs.out _ (hbw.alloc hbw.size (.cells #[.int .i64 ((k % 8 : Nat) : Int), .int .i64 ((k / 8 : Nat) : Int)] 79)) (k % 8) (k / 8) (by omega) (by omega))
    have hn' : bitB (rowD xs (k / 8)) (k % 8) = true ∧ cellsTo xs (k + 1) = cellsTo xs k ++ [(((k % 8 : Nat) : Int), ((k / 8 : Nat) : Int))] ∨ bitB (rowD xs (k / 8)) (k % 8) = false ∧ cellsTo xs (k + 1) = cellsTo xs k := by
     cases hb : bitB (rowD xs (k / 8)) (k % 8) with
     | true => exact .inl ⟨rfl, cellsTo_yes hb⟩
     | false => exact .inr ⟨rfl, cellsTo_no hb⟩
    have HN' := Lh hn'
    clear hown hb hb1 hown1 hbb hb1s hbs hbs0 hax hay hn' hbw
    generalize bitB (rowD xs (k / 8)) (k % 8) = bb at HC HN'
    generalize ((k % 8 : Nat) : Int) = u at HC HN' ⊢
    generalize ((k / 8 : Nat) : Int) = v' at HC HN' ⊢
    go_wp2_with fail
    refine HC.out.mono ?_
    rintro e w2 ⟨rfl, hb2⟩
    clear HC
    have hcc : w2.cell? ⟨w1.heap.size, 0, none⟩ = some (.int .i64 u) ∧ w2.cell? ⟨w1.heap.size, 1, none⟩ = some (.int .i64 v') := by
     have hbl := heap_alloc_new w1 (.cells #[.int .i64 u, .int .i64 v'] 79)
     exact ⟨(hb2.cell (by simp)).trans ((cell_of_row _ _ 0 _ _ _ hbl).trans rfl), (hb2.cell (by simp)).trans ((cell_of_row _ _ 1 _ _ _ hbl).trans rfl)⟩
    obtain ⟨hc2, hc3⟩ := hcc
    have hD : Below (w.heap.size + 1) W0 w2 := (HBB.out.alloc (by have := HS.out; have := HS0.out; have := HBs.out; omega) _).trans (hb2.mono (by simp; have := HS.out; have := HS0.out; have := HBs.out; omega))
    have hE : Below w1.heap.size w1 w2 := (below_alloc1 w1 _).trans (hb2.mono (by simp))
    have HOwn2 := Lh (own_below HOwn.out hE NR)
    have hzz : w1.heap.size < w2.heap.size := by have := hb2.size; simp at this; omega
    have HD := Lh hD
    clear hD hE hb2 hc0
    rcases HN'.out with ⟨rfl, hN⟩ | ⟨rfl, hN⟩
    ·have HN := Lh hN
     clear hN HN'
     have HL := Lh (cellsTo_length xs k)
     go_wp2_with (first
      | (at_builtin; refine wpList_append_own _ rfl _ _ 75 rfl (w.heap.size + 1) 79 i0 (.agg #[.int .i64 0, .int .i64 0]) 2 16 Tryz.underlying75 hi hz0 hz1 hz2 rfl (by decide) _ (cellsTo xs k).length (rowC (cellsTo xs k)) rfl (HOwn2.out.alloc _) ⟨w2.heap.size, 0, none⟩ 1 1 [.int .i64 u, .int .i64 v'] rfl rfl (World.news_of_block (cs := #[.int .i64 u, .int .i64 v']) (t := 79) (fr := (0, 0)) (heap_alloc_new w2 _)) (by simp [Value.oneCell']) (by have := HL.out; unfold maxLen; omega) (by have := HL.out; omega) (by have := HS.out; have := HS0.out; have := HBs.out; simp; omega) ?_; intro v2 w3 hown3 hgrow _))
     have hb3 : Below (w.heap.size + 1) W0 w3 := (HD.out.alloc (by have := HS.out; have := HS0.out; have := HBs.out; omega) _).grown hgrow (by simp; have := HS.out; have := HS0.out; have := HBs.out; omega) (fun g hg => (HOwn2.out.lt g hg).1)
     have R := Lh (show w3.ownsRow (w.heap.size + 1) 79 2 v2 (cellsTo xs (k + 1)).length (rowC (cellsTo xs (k + 1))) by
      rw [HN.out, rowC_snoc, List.length_append]; exact hown3)
     clear hown3 hgrow
     go_wp2
     go_roundw
     case rel => exact ⟨k + 1, by omega, by go_num, R.out, hb3⟩
     case measure => (simp [intOf] <;> omega)
    ·have HN := Lh hN
     clear hN HN'
     go_wp2
     go_roundw
     case rel => exact ⟨k + 1, by omega, by go_num, by rw [HN.out]; exact HOwn2.out, HD.out⟩
     case measure => (simp [intOf] <;> omega)
   ·obtain rfl : k = 64 := by omega
    obtain ⟨A, cap, rfl⟩ := own_shape hown
    have HOwn := Lh hown
    have HEnd := Lh (HBw.out.trans (hb.mono (B' := w.heap.size) (by omega)))
    clear hown hb
    go_wp2
    go_ret
    rw [HE.out]
    exact ⟨A, cap, rfl, own_base HOwn.out (by omega), HEnd.out⟩
 ·rw [okRB_not ho] at HOk
  have HE := Lh (cellsR_not ho)
  clear ho HHs
  go_loopw [3, 4] (fun v i wr => i = .int .i64 0 ∧ wr.ownsRow (w.heap.size + 1) 79 2 v 0 [] ∧ Below (w.heap.size + 1) W0 wr) (fun _ i _ => 64 - (intOf i).toNat)
  case atStart => exact ⟨rfl, by rw [hW] at HO; exact HO.out, by rw [hW] at HW1 ⊢; exact HW1.out⟩
  case round =>
   clear HW1 HO
   obtain ⟨rfl, hown, hb⟩ := hrel
   have hbs := hb.size
   rw [hW0] at hbs
   have hbw := HBw.out.trans (hb.mono (by omega))
   have hc0 := (hb.cell (p := ⟨w.heap.size, 0, none⟩) (by show w.heap.size < _; omega)).trans HB0.out
   go_wp2_with fail
   refine (HOk.out wr hbw).mono ?_
   rintro e w0 ⟨rfl, hbk⟩
   have hown := own_below hown hbk NR
   have hb := hbw.trans (hbk.mono (B' := w.heap.size) (by omega))
   obtain ⟨A, cap, rfl⟩ := own_shape hown
   have HOwn := Lh hown
   clear hown hbk hc0 hbw
   go_wp2
   go_ret
   rw [HE.out]
   exact ⟨A, cap, rfl, own_base HOwn.out (by omega), hb⟩
set_option maxRecDepth 100000 in
set_option maxHeartbeats 2000000 in
theorem iCellsOf (w : World) (A : Option Addr) (n cap B : Nat) (xs : List Int) (hx : xs.length = n) (hn : (n : Int) ≤ 9223372036854775807) (h : RowB w B A xs) (hB : B ≤ w.heap.size) :
  Calls Tryz.prog 82 #[.agg #[.slice A n cap]] w (NbPost (cellsR xs) w) := by
 obtain ⟨i0, hi, hz0, hz1, hz2⟩ := info_parts cellInfo
 have T0 := Lh (fun T => rb_start (T := T) (.slice A n cap) w)
 have HOk := Lh (fun W (hb : Below w.heap.size w W) => iRegionOk W A n cap B xs hx hn (h.below hb hB) (by have := hb.size; omega))
 have HRow := Lh (fun W (hb : Below w.heap.size w W) => h.below hb hB)
 have HX := Lh hx
 clear hx h
 go_enter Tryz.func82, Tryz.ntmps82
 go_wp2_with fail
 have T1 := T0.out 26
 refine (HOk.out _ T1.1).mono ?_
 rintro e w1 ⟨rfl, hb1⟩
 have T2 := T1.on hb1
 clear T0 T1 hb1 HOk
 have hbw := T2.1
 by_cases ho : okR xs
 ·rw [okRB_of ho]
  have HE := Lh (show cellsR xs = cellsTo xs (n * 8) by rw [cellsR_ok' ho, HX.out])
  obtain ⟨_, hsz, c0⟩ := id T2
  have hn8 : n ≤ 8 := by have := ho.1; have := HX.out; omega
  have HNil := Lh (World.ownsRow_nil w1 w.heap.size 79 2)
  have HOR := Lh (fun y => rowD_ok ho y)
  have HXR := Lh (fun y (hy : y < xs.length) => rowD_at (List.getElem?_eq_getElem (l := xs) hy))
  clear T2 ho
  go_wp2_with fail
  go_loopw [3, 13] (fun v i wr => ∃ y : Nat, y ≤ n ∧ i = .int .i64 y ∧ wr.ownsRow w.heap.size 79 2 v (cellsTo xs (y * 8)).length (rowC (cellsTo xs (y * 8))) ∧ Below w.heap.size w wr) (fun _ i _ => n - (intOf i).toNat)
  case atStart => exact ⟨0, Nat.zero_le _, rfl, by simpa [cellsTo, rowC] using HNil.out, hbw⟩
  case round =>
   clear HNil hbw c0 hsz
   obtain ⟨y, hy, rfl, hown, hb⟩ := hrel
   have hbs := hb.size
   by_cases hlt : y < n
   ·have hyx : y < xs.length := by have := HX.out; omega
    obtain ⟨b, off, hA, hc⟩ := HRow.out wr hb
    obtain ⟨rfl, hbB⟩ := hA (by omega)
    have hc1 := hc y xs[y] (List.getElem?_eq_getElem hyx)
    have hr := HOR.out y
    have HRE := Lh (HXR.out y hyx)
    rw [HRE.out] at hr
    generalize xs[y] = r at hc1 hr HRE
    have HKd := Lh (fun x hx8 W => iKindAt r x hr.1 hr.2 hx8 W)
    have HOwn0 := Lh hown
    clear hA hc hr hown
    go_wp2_with fail
    go_loopw [3, 18] (fun v i wr => ∃ x : Nat, x ≤ 8 ∧ i = .int .i64 x ∧ wr.ownsRow w.heap.size 79 2 v (cellsTo xs (y * 8 + x)).length (rowC (cellsTo xs (y * 8 + x))) ∧ Below w.heap.size w wr) (fun _ i _ => 8 - (intOf i).toNat)
    case atStart => exact ⟨0, Nat.zero_le _, rfl, HOwn0.out, hb⟩
    case round =>
     clear HOwn0 hb hc1
     obtain ⟨x, hx8, rfl, hown, hb⟩ := hrel
     have hbs := hb.size
     by_cases hlx : x < 8
     ·have HC := Lh (fun W => HKd.out x hlx W)
      have hcs : kindN r x = 1 ∧ Hid (cellsTo xs (y * 8 + (x + 1)) = cellsTo xs (y * 8 + x) ++ [((x : Int), (y : Int))]) ∨ kindN r x = 0 ∧ Hid (cellsTo xs (y * 8 + (x + 1)) = cellsTo xs (y * 8 + x)) := by
       cases hb : bitB r x with
       | true => exact .inl ⟨kindN_yes hb, Lh (cellsTo_yes' hlx (by rw [HRE.out]; exact hb))⟩
       | false => exact .inr ⟨kindN_no hb, Lh (cellsTo_no' hlx (by rw [HRE.out]; exact hb))⟩
      generalize kindN r x = kd at HC hcs
      have HOwn2 := Lh hown
      have HL := Lh (cellsTo_length xs (y * 8 + x))
      clear hown
      go_wp2_with fail
      refine (HC.out _).mono ?_
      rintro e w2 ⟨rfl, rfl⟩
      clear HC
      rcases hcs with ⟨rfl, HN⟩ | ⟨rfl, HN⟩
      ·go_wp2_with (first
        | (at_builtin; refine wpList_append_own _ rfl _ _ 75 rfl w.heap.size 79 i0 (.agg #[.int .i64 0, .int .i64 0]) 2 16 Tryz.underlying75 hi hz0 hz1 hz2 rfl (by decide) _ (cellsTo xs (y * 8 + x)).length (rowC (cellsTo xs (y * 8 + x))) rfl (HOwn2.out.alloc _) ⟨w2.heap.size, 0, none⟩ 1 1 [.int .i64 (x : Int), .int .i64 (y : Int)] rfl rfl (World.news_of_block (cs := #[.int .i64 (x : Int), .int .i64 (y : Int)]) (t := 79) (fr := (0, 0)) (heap_alloc_new w2 _)) (by simp [Value.oneCell']) (by have := HL.out; unfold maxLen; omega) (by have := HL.out; omega) (by simp; omega) ?_; intro v2 w3 hown3 hgrow _))
       have hb3 : Below w.heap.size w w3 := (hb.alloc hbs _).grown hgrow (by simp; omega) (fun g hg => (HOwn2.out.lt g hg).1)
       have R := Lh (show w3.ownsRow w.heap.size 79 2 v2 (cellsTo xs (y * 8 + (x + 1))).length (rowC (cellsTo xs (y * 8 + (x + 1)))) by
        rw [HN.out, rowC_snoc, List.length_append]; exact hown3)
       clear hown3 hgrow hb
       go_wp2
       go_roundw
       case rel => exact ⟨x + 1, by omega, by go_num, R.out, hb3⟩
       case measure => (simp [intOf] <;> omega)
      ·go_wp2
       go_roundw
       case rel => exact ⟨x + 1, by omega, by go_num, by rw [HN.out]; exact HOwn2.out, hb⟩
       case measure => (simp [intOf] <;> omega)
     ·obtain rfl : x = 8 := by omega
      have HOwn2 := Lh (show _ by rw [show y * 8 + 8 = (y + 1) * 8 by omega] at hown; exact hown)
      clear hown
      go_wp2
      go_roundw
      case rel => exact ⟨y + 1, by omega, by go_num, HOwn2.out, hb⟩
      case measure => (simp [intOf] <;> omega)
   ·obtain rfl : y = n := by omega
    obtain ⟨A', cap', rfl⟩ := own_shape hown
    have HOwn := Lh hown
    clear hown
    go_wp2
    go_ret
    rw [HE.out]
    exact ⟨A', cap', rfl, HOwn.out, hb⟩
 ·rw [okRB_not ho]
  have HE := Lh (cellsR_not ho)
  clear ho T2
  go_wp2
  go_ret
  rw [HE.out]
  exact ⟨none, 0, rfl, ⟨rfl, .inl ⟨rfl, rfl⟩⟩, hbw⟩
end Go.Proofs.YtmajllgfmclcoaaGreatDoor.Reg
namespace Go.Proofs.YtmajllgfmclcoaaGreatDoor.Flo
open Go.RowKit Base Euler Go.Proofs.YtmajllgfmclcoaaGreatDoor.Cell Reg Cels Go.Joins
theorem join_table : ∀ i, i < 64 → Nb.nbTo (plC (io i)).1 (plC (io i)).2 64 = (joinF true (io i)).map plC := by decide +kernel
theorem join_true {v : Nat} (hv : v < 100) (hr : ring v = false) : Nb.nbTo (plC v).1 (plC v).2 64 = (joinF true v).map plC := by
 have := join_table (oi v) (oi_lt hv hr)
 rwa [io_oi hr] at this
theorem implNb' (W : World) {v : Nat} (hv : v < 100) (hr : ring v = false) {x y : Int} (hx : x = (plC v).1) (hy : y = (plC v).2) : Calls Tryz.prog 153 #[.agg #[.int .i64 x, .int .i64 y]] W (NbPost ((joinF true v).map plC) W) := by
 subst hx hy
 rw [← join_true hv hr]
 exact Nb.implNb _ _ W
theorem specNb' (W : World) {v : Nat} (hv : v < 100) (hr : ring v = false) {x y : Int} (hx : x = (plC v).1) (hy : y = (plC v).2) : Calls Tryz.prog 141 #[.agg #[.int .i64 x, .int .i64 y]] W (NbPost ((joinF true v).map plC) W) := by
 subst hx hy
 rw [← join_true hv hr]
 exact Nb.specNb _ _ W
def inRg (x y : Int) : Bool := decide (-1 ≤ x ∧ x ≤ 8 ∧ -1 ≤ y ∧ y ≤ 8)
theorem inRg_iff {x y : Int} : inRg x y = true ↔ -1 ≤ x ∧ x ≤ 8 ∧ -1 ≤ y ∧ y ≤ 8 := by unfold inRg; simp
theorem inRg_to (v : Nat) (d r : Nat) (hr : r < 3) : inRg ((plC v).1 + ((r : Int) - 1)) ((plC v).2 + ((d : Int) - 1)) = inTo v (3 * d + r) := by
 rw [Bool.eq_iff_iff, inRg_iff]
 unfold inTo plC
 simp only [Bool.and_eq_true, decide_eq_true_eq, show (3 * d + r) / 3 = d by omega, show (3 * d + r) % 3 = r by omega]
 omega
theorem toP_cell {v d r : Nat} (hr : r < 3) (h : inTo v (3 * d + r) = true) : plC (toP v (3 * d + r)) = ((plC v).1 + ((r : Int) - 1), (plC v).2 + ((d : Int) - 1)) := by
 unfold inTo at h
 simp only [Bool.and_eq_true, decide_eq_true_eq, show (3 * d + r) / 3 = d by omega, show (3 * d + r) % 3 = r by omega] at h
 unfold plC toP
 simp only [show (3 * d + r) / 3 = d by omega, show (3 * d + r) % 3 = r by omega]
 exact Prod.ext (by simp only; omega) (by simp only; omega)
set_option maxHeartbeats 400000 in
theorem inRing (x y : Int) (w : World) :
  Calls Tryz.prog 154 #[.agg #[.int .i64 x, .int .i64 y]] w (Bol (inRg x y) w) := by
 have H : ∀ (b : Bool) (W : World), (b = true ↔ -1 ≤ x ∧ x ≤ 8 ∧ -1 ≤ y ∧ y ≤ 8) → Below w.heap.size w W → Bol (inRg x y) w (.returned (.bool b)) W := fun b W h hb => mkBol (by rw [Bool.eq_iff_iff, inRg_iff]; exact h) hb
 have HH := Lh H
 clear H
 go_enter Tryz.func154, Tryz.ntmps154
 go_wp2
 all_goals
  go_ret
  refine HH.out _ _ ?_ (below_alloc1 _ _)
  simp
  try omega
def Bx (w : World) (x y : Int) (W : World) : Prop := Below w.heap.size w W ∧ w.heap.size + 1 ≤ W.heap.size ∧ W.cell? ⟨w.heap.size, 0, none⟩ = some (.int .i64 x) ∧ W.cell? ⟨w.heap.size, 1, none⟩ = some (.int .i64 y)
theorem bx_start {T : TypeId} (x y : Int) (w : World) : Bx w x y (w.alloc (.cells #[.int .i64 x, .int .i64 y] T)) :=
 ⟨below_alloc1 w _, by simp, (cell_of_row _ _ 0 _ _ _ (heap_alloc_new w _)).trans rfl, (cell_of_row _ _ 1 _ _ _ (heap_alloc_new w _)).trans rfl⟩
theorem Bx.on {w W W' : World} {x y : Int} (h : Bx w x y W) (hb : Below W.heap.size W W') : Bx w x y W' := by
 obtain ⟨h0, h1, h2, h3⟩ := h
 have hz := hb.size
 exact ⟨h0.trans (hb.mono h0.size), by omega, (hb.cell (by show w.heap.size < _; omega)).trans h2, (hb.cell (by show w.heap.size < _; omega)).trans h3⟩
theorem Bx.grown {w W W' : World} {x y : Int} {B : Nat} (h : Bx w x y W) (hb : Below B W W') (hB : w.heap.size + 1 ≤ B) : Bx w x y W' := by
 obtain ⟨h0, h1, h2, h3⟩ := h
 have hz := hb.size
 exact ⟨h0.trans (hb.mono (by omega)), by omega, (hb.cell (by show w.heap.size < _; omega)).trans h2, (hb.cell (by show w.heap.size < _; omega)).trans h3⟩
set_option maxRecDepth 100000 in
set_option maxHeartbeats 2000000 in
theorem joined (g : Bool) (v : Nat) (hv : v < 100) (hg : g = true → ring v = false) (x y : Int) (hx : x = (plC v).1) (hy : y = (plC v).2) (w : World) :
  Calls Tryz.prog 146 #[.agg #[.int .i64 x, .int .i64 y], .bool g] w (NbPost ((joinF g v).map plC) w) := by
 obtain ⟨i0, hi, hz0, hz1, hz2⟩ := info_parts cellInfo
 have T0 := Lh (fun T => bx_start (T := T) x y w)
 cases g with
 | true =>
  have HN := Lh (fun W => implNb' W hv (hg rfl) hx hy)
  clear hx hy hg
  generalize (joinF true v).map plC = L at HN ⊢
  go_enter Tryz.func146, Tryz.ntmps146
  go_wp2_with fail
  refine (HN.out _).mono ?_
  rintro e w1 ⟨A, cap, rfl, hown, hb1⟩
  have T1 := (T0.out 79).on hb1
  have HO := Lh (own_base (B' := w.heap.size) hown (by simp))
  have hb := T1.1
  clear hown T1 hb1
  go_wp2
  go_ret
  exact ⟨A, cap, rfl, HO.out, hb⟩
 | false =>
  have hL : ∀ k, (ringTo v k).length ≤ k := ringTo_length v
  have HL := Lh hL
  have HIn := Lh (fun d r hr => inRg_to v d r hr)
  have HTo := Lh (fun d r hr h => toP_cell (v := v) (d := d) (r := r) hr h)
  rw [← hx, ← hy] at HIn HTo
  have HX := Lh (show -1 ≤ x ∧ x ≤ 8 ∧ -1 ≤ y ∧ y ≤ 8 by rw [hx, hy]; unfold plC; simp only; omega)
  have HE := Lh (show (joinF false v).map plC = (ringTo v 9).map plC from rfl)
  clear hx hy hg hL
  go_enter Tryz.func146, Tryz.ntmps146
  go_wp2_with (first
   | (at_make; refine wpList_make_own _ rfl _ _ 75 rfl (w.heap.size + 1) 79 i0 (.agg #[.int .i64 0, .int .i64 0]) 2 Tryz.underlying75 hi hz0 hz1 .i64 .i64 9 9 rfl rfl (by omega) (by rw [hz2]; omega) (by unfold maxLen; omega) (by simp) ?_; intro w3 hown3 hg3))
  have T3 := (T0.out 79).on ((Below.refl _ _).grown hg3 (by omega) (by simp))
  have HO := Lh hown3
  clear hown3 hg3 T0
  go_loopw [5, 6] (fun s i wr => ∃ d : Nat, d ≤ 3 ∧ i = .int .i64 ((d : Int) - 1) ∧ wr.ownsRow (w.heap.size + 1) 79 2 s (ringTo v (3 * d)).length (rowC ((ringTo v (3 * d)).map plC)) ∧ Bx w x y wr) (fun _ i _ => 3 - ((intOf i) + 1).toNat)
  case atStart => exact ⟨0, Nat.zero_le _, rfl, (by have q := HO.out; simp at q; simpa [ringTo, rowC] using q), T3⟩
  case round =>
   clear HO T3
   obtain ⟨d, hd, rfl, hown, T⟩ := hrel
   by_cases hlt : d < 3
   ·have HO := Lh hown
    clear hown
    go_wp2_with fail
    have hdd : decide ((d : Int) - 1 ≤ 1) = true := decide_eq_true (by omega)
    go_loopw [5, 7] (fun s i wr => ∃ r : Nat, r ≤ 3 ∧ i = .int .i64 ((r : Int) - 1) ∧ wr.ownsRow (w.heap.size + 1) 79 2 s (ringTo v (3 * d + r)).length (rowC ((ringTo v (3 * d + r)).map plC)) ∧ Bx w x y wr) (fun _ i _ => 3 - ((intOf i) + 1).toNat)
    case atStart => exact ⟨0, Nat.zero_le _, rfl, HO.out, T⟩
    case round =>
     clear HO T
     obtain ⟨r, hr, rfl, hown, T⟩ := hrel
     by_cases hlr : r < 3
     ·have HO := Lh hown
      have hI := HIn.out d r hlr
      clear hown
      obtain ⟨hb, hsz, c0, c1⟩ := id T
      go_wp2_with fail
      refine (moved x y _ _ _).mono ?_
      rintro e w1 ⟨rfl, hb1⟩
      have T1 := T.on hb1
      have hw1 : wrap64 (x + ((r : Int) - 1)) = x + ((r : Int) - 1) := by have := HX.out; unfold wrap64; omega
      have hw2 : wrap64 (y + ((d : Int) - 1)) = y + ((d : Int) - 1) := by have := HX.out; unfold wrap64; omega
      rw [hw1, hw2]
      clear hw1 hw2
      have hT := HTo.out d r hlr
      have hN : inTo v (3 * d + r) = true ∧ Hid (∃ p, ringTo v (3 * d + (r + 1)) = ringTo v (3 * d + r) ++ [p] ∧ plC p = (x + ((r : Int) - 1), y + ((d : Int) - 1))) ∨ inTo v (3 * d + r) = false ∧ Hid (ringTo v (3 * d + (r + 1)) = ringTo v (3 * d + r)) := by
       cases q : inTo v (3 * d + r) with
       | true => exact .inl ⟨rfl, Lh ⟨_, ringTo_yes q, hT q⟩⟩
       | false => exact .inr ⟨rfl, Lh (ringTo_no q)⟩
      generalize inTo v (3 * d + r) = bb at hI hN
      generalize x + ((r : Int) - 1) = u at hI hN ⊢
      generalize y + ((d : Int) - 1) = t at hI hN ⊢
      have hw1 := hb1.size
      have HI := Lh hI
      clear hT hI
      go_wp2_with fail
      refine (inRing u t _).mono ?_
      rintro e w2 ⟨rfl, hb2⟩
      have hbl := heap_alloc_new w1 (.cells #[.int .i64 u, .int .i64 t] 79)
      have hc2 : w2.cell? ⟨w1.heap.size, 0, none⟩ = some (.int .i64 u) := (hb2.cell (by simp)).trans ((cell_of_row _ _ 0 _ _ _ hbl).trans rfl)
      have hc3 : w2.cell? ⟨w1.heap.size, 1, none⟩ = some (.int .i64 t) := (hb2.cell (by simp)).trans ((cell_of_row _ _ 1 _ _ _ hbl).trans rfl)
      have hE : Below w1.heap.size w1 w2 := (below_alloc1 w1 _).trans (hb2.mono (by simp))
      have T2 := T1.on hE
      have HO2 := Lh (own_below HO.out (hb1.trans (hE.mono hw1)) NR)
      have hw2 := hE.size
      have hz : w1.heap.size < w2.heap.size := by have := hb2.size; simp at this; omega
      rw [HI.out]
      clear hbl hb2 hE T1 hb1 c0 c1 hb
      rcases hN with ⟨rfl, HN⟩ | ⟨rfl, HN⟩
      ·have HLk := Lh (HL.out (3 * d + r))
       go_wp2_with (first
        | (at_builtin; refine wpList_append_own _ rfl _ _ 75 rfl (w.heap.size + 1) 79 i0 (.agg #[.int .i64 0, .int .i64 0]) 2 16 Tryz.underlying75 hi hz0 hz1 hz2 rfl (by decide) _ (ringTo v (3 * d + r)).length (rowC ((ringTo v (3 * d + r)).map plC)) rfl (HO2.out.alloc _) ⟨w2.heap.size, 0, none⟩ 1 1 [.int .i64 u, .int .i64 t] rfl rfl (World.news_of_block (cs := #[.int .i64 u, .int .i64 t]) (t := 79) (fr := (0, 0)) (heap_alloc_new w2 _)) (by simp [Value.oneCell']) (by have := HLk.out; unfold maxLen; omega) (by have := HLk.out; omega) (by simp; omega) ?_; intro v2 w3 hown3 hgrow _))
       have T3 := T2.grown (((Below.refl (w.heap.size + 1) w2).alloc (by omega) _).grown hgrow (by simp; omega) (fun g hg => (HO2.out.lt g hg).1)) NR
       have R := Lh (show w3.ownsRow (w.heap.size + 1) 79 2 v2 (ringTo v (3 * d + (r + 1))).length (rowC ((ringTo v (3 * d + (r + 1))).map plC)) by
        obtain ⟨p, hp, hq⟩ := HN.out
        rw [hp, List.map_append, List.map_singleton, rowC_snoc, List.length_append, hq]; exact hown3)
       clear hown3 hgrow T2
       go_wp2
       go_roundw
       case rel =>
        iterate 17 apply Exists.intro
        refine ⟨⟨r + 1, by omega, ?_, R.out, T3⟩, ?_⟩
        rotate_left
        ·rw [hdd]
        ·go_num
       case measure => (simp [intOf] <;> omega)
      ·have R := Lh (show w2.ownsRow (w.heap.size + 1) 79 2 _ (ringTo v (3 * d + (r + 1))).length (rowC ((ringTo v (3 * d + (r + 1))).map plC)) by rw [HN.out]; exact HO2.out)
       go_wp2
       go_roundw
       case rel =>
        iterate 17 apply Exists.intro
        refine ⟨⟨r + 1, by omega, ?_, R.out, T2⟩, ?_⟩
        rotate_left
        ·rw [hdd]
        ·go_num
       case measure => (simp [intOf] <;> omega)
     ·obtain rfl : r = 3 := by omega
      have R := Lh (show wr.ownsRow (w.heap.size + 1) 79 2 _ (ringTo v (3 * (d + 1))).length (rowC ((ringTo v (3 * (d + 1))).map plC)) by rw [show 3 * (d + 1) = 3 * d + 3 by omega]; exact hown)
      clear hown
      go_wp2
      go_roundw
      case rel => exact ⟨d + 1, by omega, by go_num, R.out, T⟩
      case measure => (simp [intOf] <;> omega)
   ·obtain rfl : d = 3 := by omega
    obtain ⟨A', cap', rfl⟩ := own_shape hown
    have HO := Lh hown
    have hb := T.1
    clear hown T
    go_wp2
    go_ret
    rw [HE.out]
    have e : (ringTo v (3 * 3)).length = ((ringTo v 9).map plC).length := by rw [List.length_map]
    exact ⟨A', cap', by rw [← e]; rfl, by rw [← e]; exact own_base HO.out (by omega), hb⟩
end Go.Proofs.YtmajllgfmclcoaaGreatDoor.Flo
