/- RegCl, RegCel, TilU, TilI in one text. -/
import Derived.Test.YtmenmepdmojnfaaGreatDoorMw06
import Derived.Test.YtmenmepdmojnfaaGreatDoorMw05
import Derived.Deep.DeepAppendRoom
import Derived.Deep.RegionHeld3

namespace Go.Proofs.YtmenmepdmojnfaaGreatDoor.Reg
set_option linter.unusedVariables false
open Go.RowKit Go.Proofs.YtmenmepdmojnfaaGreatDoor.Base Go.Proofs.YtmenmepdmojnfaaGreatDoor.Pure Go.Proofs.YtmenmepdmojnfaaGreatDoor.Cell Go.Proofs.YtmenmepdmojnfaaGreatDoor.Cels Go.Joins

theorem cellsTo_yes' {xs : List Int} {y x : Nat} (hx : x < 8) (h : bitB (rowD xs y) x = true) : cellsTo xs (y * 8 + x + 1) = cellsTo xs (y * 8 + x) ++ [((x : Int), (y : Int))] := by
 have e1 : (y * 8 + x) / 8 = y := by omega
 have e2 : (y * 8 + x) % 8 = x := by omega
 rw [cellsTo_yes (by rw [e1, e2]; exact h), e1, e2]
theorem cellsTo_no' {xs : List Int} {y x : Nat} (hx : x < 8) (h : bitB (rowD xs y) x = false) : cellsTo xs (y * 8 + x + 1) = cellsTo xs (y * 8 + x) := by
 have e1 : (y * 8 + x) / 8 = y := by omega
 have e2 : (y * 8 + x) % 8 = x := by omega
 rw [cellsTo_no (by rw [e1, e2]; exact h)]
theorem at_nat {k : Nat} (hk : k < 64) : atX (k : Int) = ((k % 8 : Nat) : Int) ∧ atY (k : Int) = ((k / 8 : Nat) : Int) := by
 obtain ⟨a, b, _⟩ := at_in (n := (k : Int)) (by omega) (by omega)
 rw [a, b]; constructor <;> omega

set_option maxRecDepth 100000 in
set_option maxHeartbeats 2000000 in
theorem sCellsOf (w : World) (A : Option Addr) (n cap B : Nat) (xs : List Int) (hx : xs.length = n) (hn : (n : Int) ≤ 9223372036854775807) (h : RowB w B A xs) (hB : B ≤ w.heap.size) :
  Calls Tryz.prog 77 #[.agg #[.slice A n cap]] w (NbPost (cellsR xs) w) := by
 obtain ⟨i0, hi, hz0, hz1, hz2⟩ := info_parts cellInfo
 have HM := Lib.hid (fun (W : World) => World.ownsRow_made (e := 67) (size := 2) W #[] 0 (Nat.le_refl _) (by unfold maxLen; omega) rfl)
 have HB := Lib.hid (fun (T : TypeId) => (rb_start (T := T) (.slice A n cap) w).2.2)
 have HW := Lib.hid (fun (T : TypeId) => below_alloc1 w (.cells #[.slice A n cap] T))
 have HOk := Lib.hid (fun W (hb : Below w.heap.size w W) => sRegionOk W A n cap B xs hx hn (h.below hb hB) (by have := hb.size; omega))
 have HHs := Lib.hid (fun W (ho : okR xs) (hb : Below w.heap.size w W) x y hx8 hy8 => sHas W A n cap B xs hx ho (h.below hb hB) (by have := hb.size; omega) x y hx8 hy8)
 clear hx hn h hB
 go_enter Tryz.func77, Tryz.ntmps77
 go_wp2_with fail
 have HW1 := Lib.hid (show Below (w.heap.size + 1) (w.alloc (.cells #[.slice A n cap] 26)) ((w.alloc (.cells #[.slice A n cap] 26)).alloc (.cells #[] 67)) from (Below.refl _ _).alloc (by simp) _)
 have HO := Lib.hid (own_base (B' := w.heap.size + 1) (HM.out (w.alloc (.cells #[.slice A n cap] 26))) (by simp))
 have hW0 : (w.alloc (.cells #[.slice A n cap] 26)).heap.size = w.heap.size + 1 := by simp
 have HB0 := Lib.hid (HB.out 26)
 have HBw := Lib.hid (HW.out 26)
 clear HM HB HW
 obtain ⟨W0, hW⟩ : ∃ W0, W0 = w.alloc (.cells #[.slice A n cap] 26) := ⟨_, rfl⟩
 rw [← hW] at HW1 HO hW0 HB0 HBw
 rw [hW0] at HO
 by_cases ho : okR xs
 ·rw [okRB_of ho] at HOk
  have HE := Lib.hid (cellsR_ok ho)
  have HHs := Lib.hid (fun W hb x y hx8 hy8 => HHs.out W ho hb x y hx8 hy8)
  clear ho
  go_loopw [3, 4] (fun v i wr => ∃ k : Nat, k ≤ 64 ∧ i = .int .i64 k ∧ wr.ownsRow (w.heap.size + 1) 67 2 v (cellsTo xs k).length (rowC (cellsTo xs k)) ∧ Below (w.heap.size + 1) W0 wr) (fun _ i _ => 64 - (intOf i).toNat)
  case atStart => exact ⟨0, Nat.zero_le _, rfl, by rw [hW] at HO; simpa [cellsTo, rowC] using HO.out, by rw [hW] at HW1 ⊢; exact HW1.out⟩
  case round =>
   clear HW1 HO
   obtain ⟨k, hk, rfl, hown, hb⟩ := hrel
   have hbs := hb.size
   rw [hW0] at hbs
   by_cases hlt : k < 64
   ·have hbw := HBw.out.trans (hb.mono (by omega))
    have hc0 := (hb.cell (p := ⟨w.heap.size, 0, none⟩) (by show w.heap.size < _; omega)).trans HB0.out
    go_wp2_with fail
    refine (HOk.out wr hbw).mono ?_
    rintro e w0 ⟨rfl, hbk⟩
    have hown := own_below hown hbk (Nat.le_refl _)
    have hb := hb.trans (hbk.mono (by omega))
    have hbs0 := hbk.size
    clear hbk hc0 hbw
    go_wp2_with fail
    refine (sCellAt k _).mono ?_
    rintro e w1 ⟨rfl, hb1⟩
    have hown1 := own_below hown hb1 (Nat.le_refl _)
    have hbb := hb.trans (hb1.mono (by omega))
    have hb1s := hb1.size
    have hc0 := (hbb.cell (p := ⟨w.heap.size, 0, none⟩) (by show w.heap.size < _; omega)).trans HB0.out
    have hz : w.heap.size < w1.heap.size := by omega
    have hbw := HBw.out.trans (hbb.mono (by omega))
    have HOwn := Lib.hid hown1
    have HBB := Lib.hid hbb
    have HS := Lib.hid hb1s
    have HS0 := Lib.hid hbs0
    have HBs := Lib.hid hbs
    obtain ⟨hax, hay⟩ := at_nat hlt
    rw [hax, hay]
    have HC := Lib.hid (HHs.out _ (hbw.alloc hbw.size (.cells #[.int .i64 ((k % 8 : Nat) : Int), .int .i64 ((k / 8 : Nat) : Int)] 67)) (k % 8) (k / 8) (by omega) (by omega))
    have hn' : bitB (rowD xs (k / 8)) (k % 8) = true ∧ cellsTo xs (k + 1) = cellsTo xs k ++ [(((k % 8 : Nat) : Int), ((k / 8 : Nat) : Int))] ∨ bitB (rowD xs (k / 8)) (k % 8) = false ∧ cellsTo xs (k + 1) = cellsTo xs k := by
     cases hb : bitB (rowD xs (k / 8)) (k % 8) with
     | true => exact .inl ⟨rfl, cellsTo_yes hb⟩
     | false => exact .inr ⟨rfl, cellsTo_no hb⟩
    have HN' := Lib.hid hn'
    clear hown hb hb1 hown1 hbb hb1s hbs hbs0 hax hay hn' hbw
    generalize bitB (rowD xs (k / 8)) (k % 8) = bb at HC HN'
    generalize ((k % 8 : Nat) : Int) = u at HC HN' ⊢
    generalize ((k / 8 : Nat) : Int) = v' at HC HN' ⊢
    go_wp2_with fail
    refine HC.out.mono ?_
    rintro e w2 ⟨rfl, hb2⟩
    clear HC
    have hcc : w2.cell? ⟨w1.heap.size, 0, none⟩ = some (.int .i64 u) ∧ w2.cell? ⟨w1.heap.size, 1, none⟩ = some (.int .i64 v') := by
     have hbl := heap_alloc_new w1 (.cells #[.int .i64 u, .int .i64 v'] 67)
     exact ⟨(hb2.cell (by simp)).trans ((cell_of_row _ _ 0 _ _ _ hbl).trans rfl), (hb2.cell (by simp)).trans ((cell_of_row _ _ 1 _ _ _ hbl).trans rfl)⟩
    obtain ⟨hc2, hc3⟩ := hcc
    have hD : Below (w.heap.size + 1) W0 w2 := (HBB.out.alloc (by have := HS.out; have := HS0.out; have := HBs.out; omega) _).trans (hb2.mono (by simp; have := HS.out; have := HS0.out; have := HBs.out; omega))
    have hE : Below w1.heap.size w1 w2 := (below_alloc1 w1 _).trans (hb2.mono (by simp))
    have HOwn2 := Lib.hid (own_below HOwn.out hE (Nat.le_refl _))
    have hzz : w1.heap.size < w2.heap.size := by have := hb2.size; simp at this; omega
    have HD := Lib.hid hD
    clear hD hE hb2 hc0
    rcases HN'.out with ⟨rfl, hN⟩ | ⟨rfl, hN⟩
    ·have HN := Lib.hid hN
     clear hN HN'
     have HL := Lib.hid (cellsTo_length xs k)
     go_wp2_with (first
      | (at_builtin; refine wpList_append_own _ rfl _ _ 31 rfl (w.heap.size + 1) 67 i0 (.agg #[.int .i64 0, .int .i64 0]) 2 16 Tryz.underlying31 hi hz0 hz1 hz2 rfl (by decide) _ (cellsTo xs k).length (rowC (cellsTo xs k)) rfl (HOwn2.out.alloc _) ⟨w2.heap.size, 0, none⟩ 1 1 [.int .i64 u, .int .i64 v'] rfl rfl (World.news_of_block (cs := #[.int .i64 u, .int .i64 v']) (t := 67) (fr := (0, 0)) (heap_alloc_new w2 _)) (by simp [Value.oneCell']) (by have := HL.out; unfold maxLen; omega) (by have := HL.out; omega) (by have := HS.out; have := HS0.out; have := HBs.out; simp; omega) ?_; intro v2 w3 hown3 hgrow _))
     have hb3 : Below (w.heap.size + 1) W0 w3 := (HD.out.alloc (by have := HS.out; have := HS0.out; have := HBs.out; omega) _).grown hgrow (by simp; have := HS.out; have := HS0.out; have := HBs.out; omega) (fun g hg => (HOwn2.out.lt g hg).1)
     have R := Lib.hid (show w3.ownsRow (w.heap.size + 1) 67 2 v2 (cellsTo xs (k + 1)).length (rowC (cellsTo xs (k + 1))) by
      rw [HN.out, rowC_snoc, List.length_append]; exact hown3)
     clear hown3 hgrow
     go_wp2
     go_roundw
     case rel => exact ⟨k + 1, by omega, by go_num, R.out, hb3⟩
     case measure => (simp [intOf] <;> omega)
    ·have HN := Lib.hid hN
     clear hN HN'
     go_wp2
     go_roundw
     case rel => exact ⟨k + 1, by omega, by go_num, by rw [HN.out]; exact HOwn2.out, HD.out⟩
     case measure => (simp [intOf] <;> omega)
   ·obtain rfl : k = 64 := by omega
    obtain ⟨A, cap, rfl⟩ := own_shape hown
    have HOwn := Lib.hid hown
    have HEnd := Lib.hid (HBw.out.trans (hb.mono (B' := w.heap.size) (by omega)))
    clear hown hb
    go_wp2
    go_ret
    rw [HE.out]
    exact ⟨A, cap, rfl, own_base HOwn.out (by omega), HEnd.out⟩
 ·rw [okRB_not ho] at HOk
  have HE := Lib.hid (cellsR_not ho)
  clear ho HHs
  go_loopw [3, 4] (fun v i wr => i = .int .i64 0 ∧ wr.ownsRow (w.heap.size + 1) 67 2 v 0 [] ∧ Below (w.heap.size + 1) W0 wr) (fun _ i _ => 64 - (intOf i).toNat)
  case atStart => exact ⟨rfl, by rw [hW] at HO; exact HO.out, by rw [hW] at HW1 ⊢; exact HW1.out⟩
  case round =>
   clear HW1 HO
   obtain ⟨rfl, hown, hb⟩ := hrel
   have hbs := hb.size
   rw [hW0] at hbs
   have hbw := HBw.out.trans (hb.mono (by omega))
   have hc0 := (hb.cell (p := ⟨w.heap.size, 0, none⟩) (by show w.heap.size < _; omega)).trans HB0.out
   go_wp2_with fail
   refine (HOk.out wr hbw).mono ?_
   rintro e w0 ⟨rfl, hbk⟩
   have hown := own_below hown hbk (Nat.le_refl _)
   have hb := hbw.trans (hbk.mono (B' := w.heap.size) (by omega))
   obtain ⟨A, cap, rfl⟩ := own_shape hown
   have HOwn := Lib.hid hown
   clear hown hbk hc0 hbw
   go_wp2
   go_ret
   rw [HE.out]
   exact ⟨A, cap, rfl, own_base HOwn.out (by omega), hb⟩

set_option maxRecDepth 100000 in
set_option maxHeartbeats 2000000 in
theorem iCellsOf (w : World) (A : Option Addr) (n cap B : Nat) (xs : List Int) (hx : xs.length = n) (hn : (n : Int) ≤ 9223372036854775807) (h : RowB w B A xs) (hB : B ≤ w.heap.size) :
  Calls Tryz.prog 97 #[.agg #[.slice A n cap]] w (NbPost (cellsR xs) w) := by
 obtain ⟨i0, hi, hz0, hz1, hz2⟩ := info_parts cellInfo
 have T0 := Lib.hid (fun T => rb_start (T := T) (.slice A n cap) w)
 have HOk := Lib.hid (fun W (hb : Below w.heap.size w W) => iRegionOk W A n cap B xs hx hn (h.below hb hB) (by have := hb.size; omega))
 have HRow := Lib.hid (fun W (hb : Below w.heap.size w W) => h.below hb hB)
 have HX := Lib.hid hx
 clear hx h
 go_enter Tryz.func97, Tryz.ntmps97
 go_wp2_with fail
 have T1 := T0.out 26
 refine (HOk.out _ T1.1).mono ?_
 rintro e w1 ⟨rfl, hb1⟩
 have T2 := T1.on hb1
 clear T0 T1 hb1 HOk
 have hbw := T2.1
 by_cases ho : okR xs
 ·rw [okRB_of ho]
  have HE := Lib.hid (show cellsR xs = cellsTo xs (n * 8) by rw [cellsR_ok' ho, HX.out])
  obtain ⟨_, hsz, c0⟩ := id T2
  have hn8 : n ≤ 8 := by have := ho.1; have := HX.out; omega
  have HNil := Lib.hid (World.ownsRow_nil w1 w.heap.size 67 2)
  have HOR := Lib.hid (fun y => rowD_ok ho y)
  have HXR := Lib.hid (fun y (hy : y < xs.length) => rowD_at (List.getElem?_eq_getElem (l := xs) hy))
  clear T2 ho
  go_wp2_with fail
  go_loopw [3, 13] (fun v i wr => ∃ y : Nat, y ≤ n ∧ i = .int .i64 y ∧ wr.ownsRow w.heap.size 67 2 v (cellsTo xs (y * 8)).length (rowC (cellsTo xs (y * 8))) ∧ Below w.heap.size w wr) (fun _ i _ => n - (intOf i).toNat)
  case atStart => exact ⟨0, Nat.zero_le _, rfl, by simpa [cellsTo, rowC] using HNil.out, hbw⟩
  case round =>
   clear HNil hbw c0 hsz
   obtain ⟨y, hy, rfl, hown, hb⟩ := hrel
   have hbs := hb.size
   by_cases hlt : y < n
   ·have hyx : y < xs.length := by have := HX.out; omega
    obtain ⟨b, off, hA, hc⟩ := HRow.out wr hb
    obtain ⟨rfl, hbB⟩ := hA (by omega)
    have hc1 := hc y xs[y] (List.getElem?_eq_getElem hyx)
    have hr := HOR.out y
    have HRE := Lib.hid (HXR.out y hyx)
    rw [HRE.out] at hr
    generalize xs[y] = r at hc1 hr HRE
    have HKd := Lib.hid (fun x hx8 W => iKindAt r x hr.1 hr.2 hx8 W)
    have HOwn0 := Lib.hid hown
    clear hA hc hr hown
    go_wp2_with fail
    go_loopw [3, 18] (fun v i wr => ∃ x : Nat, x ≤ 8 ∧ i = .int .i64 x ∧ wr.ownsRow w.heap.size 67 2 v (cellsTo xs (y * 8 + x)).length (rowC (cellsTo xs (y * 8 + x))) ∧ Below w.heap.size w wr) (fun _ i _ => 8 - (intOf i).toNat)
    case atStart => exact ⟨0, Nat.zero_le _, rfl, HOwn0.out, hb⟩
    case round =>
     clear HOwn0 hb hc1
     obtain ⟨x, hx8, rfl, hown, hb⟩ := hrel
     have hbs := hb.size
     by_cases hlx : x < 8
     ·have HC := Lib.hid (fun W => HKd.out x hlx W)
      have hcs : kindN r x = 1 ∧ Hid (cellsTo xs (y * 8 + (x + 1)) = cellsTo xs (y * 8 + x) ++ [((x : Int), (y : Int))]) ∨ kindN r x = 0 ∧ Hid (cellsTo xs (y * 8 + (x + 1)) = cellsTo xs (y * 8 + x)) := by
       cases hb : bitB r x with
       | true => exact .inl ⟨kindN_yes hb, Lib.hid (cellsTo_yes' hlx (by rw [HRE.out]; exact hb))⟩
       | false => exact .inr ⟨kindN_no hb, Lib.hid (cellsTo_no' hlx (by rw [HRE.out]; exact hb))⟩
      generalize kindN r x = kd at HC hcs
      have HOwn2 := Lib.hid hown
      have HL := Lib.hid (cellsTo_length xs (y * 8 + x))
      clear hown
      go_wp2_with fail
      refine (HC.out _).mono ?_
      rintro e w2 ⟨rfl, rfl⟩
      clear HC
      rcases hcs with ⟨rfl, HN⟩ | ⟨rfl, HN⟩
      ·go_wp2_with (first
        | (at_builtin; refine wpList_append_own _ rfl _ _ 31 rfl w.heap.size 67 i0 (.agg #[.int .i64 0, .int .i64 0]) 2 16 Tryz.underlying31 hi hz0 hz1 hz2 rfl (by decide) _ (cellsTo xs (y * 8 + x)).length (rowC (cellsTo xs (y * 8 + x))) rfl (HOwn2.out.alloc _) ⟨w2.heap.size, 0, none⟩ 1 1 [.int .i64 (x : Int), .int .i64 (y : Int)] rfl rfl (World.news_of_block (cs := #[.int .i64 (x : Int), .int .i64 (y : Int)]) (t := 67) (fr := (0, 0)) (heap_alloc_new w2 _)) (by simp [Value.oneCell']) (by have := HL.out; unfold maxLen; omega) (by have := HL.out; omega) (by simp; omega) ?_; intro v2 w3 hown3 hgrow _))
       have hb3 : Below w.heap.size w w3 := (hb.alloc hbs _).grown hgrow (by simp; omega) (fun g hg => (HOwn2.out.lt g hg).1)
       have R := Lib.hid (show w3.ownsRow w.heap.size 67 2 v2 (cellsTo xs (y * 8 + (x + 1))).length (rowC (cellsTo xs (y * 8 + (x + 1)))) by
        rw [HN.out, rowC_snoc, List.length_append]; exact hown3)
       clear hown3 hgrow hb
       go_wp2
       go_roundw
       case rel => exact ⟨x + 1, by omega, by go_num, R.out, hb3⟩
       case measure => (simp [intOf] <;> omega)
      ·go_wp2
       go_roundw
       case rel => exact ⟨x + 1, by omega, by go_num, by rw [HN.out]; exact HOwn2.out, hb⟩
       case measure => (simp [intOf] <;> omega)
     ·obtain rfl : x = 8 := by omega
      have HOwn2 := Lib.hid (show _ by rw [show y * 8 + 8 = (y + 1) * 8 by omega] at hown; exact hown)
      clear hown
      go_wp2
      go_roundw
      case rel => exact ⟨y + 1, by omega, by go_num, HOwn2.out, hb⟩
      case measure => (simp [intOf] <;> omega)
   ·obtain rfl : y = n := by omega
    obtain ⟨A', cap', rfl⟩ := own_shape hown
    have HOwn := Lib.hid hown
    clear hown
    go_wp2
    go_ret
    rw [HE.out]
    exact ⟨A', cap', rfl, HOwn.out, hb⟩
 ·rw [okRB_not ho]
  have HE := Lib.hid (cellsR_not ho)
  clear ho T2
  go_wp2
  go_ret
  rw [HE.out]
  exact ⟨none, 0, rfl, ⟨rfl, .inl ⟨rfl, rfl⟩⟩, hbw⟩
end Go.Proofs.YtmenmepdmojnfaaGreatDoor.Reg

namespace Go.Proofs.YtmenmepdmojnfaaGreatDoor.Reg
set_option linter.unusedVariables false
open Go.RowKit Go.Proofs.YtmenmepdmojnfaaGreatDoor.Pure Go.Proofs.YtmenmepdmojnfaaGreatDoor.Cell Go.Joins

def RC (w : World) (v : Value) (x y : Int) (W : World) : Prop :=
 Below w.heap.size w W ∧ w.heap.size + 2 ≤ W.heap.size ∧ W.cell? ⟨w.heap.size, 0, none⟩ = some v ∧ W.cell? ⟨w.heap.size + 1, 0, none⟩ = some (.int .i64 x) ∧ W.cell? ⟨w.heap.size + 1, 1, none⟩ = some (.int .i64 y)
theorem rc_start {T T' : TypeId} (v : Value) (x y : Int) (w : World) : RC w v x y ((w.alloc (.cells #[v] T)).alloc (.cells #[.int .i64 x, .int .i64 y] T')) := by
 have e1 : ((w.alloc (.cells #[v] T)).alloc (.cells #[.int .i64 x, .int .i64 y] T')).heap[w.heap.size]? = some (.cells #[v] T) := by
  show ((w.heap.push _).push _)[w.heap.size]? = _
  rw [Array.getElem?_push_lt (by simp)]
  simp
 have e2 : ((w.alloc (.cells #[v] T)).alloc (.cells #[.int .i64 x, .int .i64 y] T')).heap[w.heap.size + 1]? = some (.cells #[.int .i64 x, .int .i64 y] T') := by
  show ((w.heap.push _).push _)[w.heap.size + 1]? = _
  have : w.heap.size + 1 = (w.heap.push (.cells #[v] T)).size := by simp
  rw [this]
  exact Array.getElem?_push_size
 exact ⟨below_alloc2 w _ _, by simp, (cell_of_row _ _ 0 _ _ _ e1).trans rfl, (cell_of_row _ _ 0 _ _ _ e2).trans rfl, (cell_of_row _ _ 1 _ _ _ e2).trans rfl⟩
theorem RC.on {w W W' : World} {v : Value} {x y : Int} (h : RC w v x y W) (hb : Below W.heap.size W W') : RC w v x y W' := by
 obtain ⟨h0, h1, h2, h3, h4⟩ := h
 have hz := hb.size
 refine ⟨h0.trans (hb.mono h0.size), by omega, ?_, ?_, ?_⟩
 ·rw [hb.cell (by show w.heap.size < _; omega)]; exact h2
 ·rw [hb.cell (by show w.heap.size + 1 < _; omega)]; exact h3
 ·rw [hb.cell (by show w.heap.size + 1 < _; omega)]; exact h4
theorem has_no_ok {xs : List Int} (h : ¬ okR xs) (x y : Int) : hasB xs x y = false := by
 rw [Bool.eq_false_iff]; intro k; exact h (hasB_iff.1 k).1
theorem has_no_cell {xs : List Int} {x y : Int} (h : ¬ Ok x y) : hasB xs x y = false := by
 rw [Bool.eq_false_iff]; intro k; exact h ⟨(hasB_iff.1 k).2.1, (hasB_iff.1 k).2.2.1, (hasB_iff.1 k).2.2.2.1, (hasB_iff.1 k).2.2.2.2.1⟩
theorem has_at {xs : List Int} (h : okR xs) {x y : Nat} (hx : x < 8) (hy : y < 8) : hasB xs (x : Int) (y : Int) = bitB (rowD xs y) x := by
 rw [Bool.eq_iff_iff, hasB_iff, Int.toNat_natCast, Int.toNat_natCast]
 constructor
 ·exact fun k => k.2.2.2.2.2
 ·exact fun k => ⟨h, by omega, by omega, by omega, by omega, k⟩
theorem ok_nat {x y : Int} (h : Ok x y) : ∃ (x' y' : Nat), x = (x' : Int) ∧ y = (y' : Int) ∧ x' < 8 ∧ y' < 8 := by
 obtain ⟨a, b, c, d⟩ := h
 exact ⟨x.toNat, y.toNat, by omega, by omega, by omega, by omega⟩

set_option maxRecDepth 100000 in
set_option maxHeartbeats 1000000 in
theorem sHasCell (w : World) (A : Option Addr) (n cap B : Nat) (xs : List Int) (hx : xs.length = n) (hn : (n : Int) ≤ 9223372036854775807) (h : RowB w B A xs) (hB : B ≤ w.heap.size) (x y : Int) :
  Calls Tryz.prog 79 #[.agg #[.slice A n cap], .agg #[.int .i64 x, .int .i64 y]] w (Bol (hasB xs x y) w) := by
 have T0 := Lib.hid (fun T T' => rc_start (T := T) (T' := T') (.slice A n cap) x y w)
 have HOk := Lib.hid (fun W (hr : RC w (.slice A n cap) x y W) => sRegionOk W A n cap B xs hx hn (h.below hr.1 hB) (by have := hr.2.1; omega))
 have HHs := Lib.hid (fun W (x' y' : Nat) (ho : okR xs) (hr : RC w (.slice A n cap) x y W) hx8 hy8 => sHas W A n cap B xs hx ho (h.below hr.1 hB) (by have := hr.2.1; omega) x' y' hx8 hy8)
 clear hx hn h hB
 go_enter Tryz.func79, Tryz.ntmps79
 go_wp2_with fail
 have T1 := T0.out 26 67
 refine (HOk.out _ T1).mono ?_
 rintro e w1 ⟨rfl, hb1⟩
 have T2 := T1.on hb1
 clear T0 T1 hb1 HOk
 by_cases ho : okR xs
 ·rw [okRB_of ho]
  obtain ⟨_, _, c0, c1, c2⟩ := id T2
  go_wp2_with fail
  refine (sCellOk x y _).mono ?_
  rintro e w2 ⟨rfl, hb2⟩
  have T3 := T2.on hb2
  clear T2 c0 c1 c2 hb2
  by_cases hok : Ok x y
  ·rw [okB_of hok]
   obtain ⟨x', y', rfl, rfl, hx8, hy8⟩ := ok_nat hok
   have HE := Lib.hid (has_at ho hx8 hy8)
   obtain ⟨_, _, c0, c1, c2⟩ := id T3
   have HC := Lib.hid (HHs.out w2 x' y' ho T3 hx8 hy8)
   clear HHs hok hx8 hy8 ho
   go_wp2_with fail
   refine HC.out.mono ?_
   rintro e w3 ⟨rfl, hb3⟩
   have hb := (T3.on hb3).1
   clear T3 HC hb3 c0 c1 c2
   go_wp2
   go_ret
   exact mkBol HE.out.symm hb
  ·rw [okB_not hok]
   have HE := Lib.hid (has_no_cell (xs := xs) hok)
   have hb := T3.1
   clear T3 hok ho HHs
   go_wp2
   go_ret
   exact mkBol HE.out.symm hb
 ·rw [okRB_not ho]
  have HE := Lib.hid (has_no_ok ho x y)
  have hb := T2.1
  clear T2 ho HHs
  go_wp2
  go_ret
  exact mkBol HE.out.symm hb

end Go.Proofs.YtmenmepdmojnfaaGreatDoor.Reg

namespace Go.Proofs.YtmenmepdmojnfaaGreatDoor.Til
set_option linter.unusedVariables false
set_option linter.unusedSimpArgs false
open Go.RowKit Go.Proofs.YtmenmepdmojnfaaGreatDoor.Pure Go.Proofs.YtmenmepdmojnfaaGreatDoor.Cels Go.Proofs.YtmenmepdmojnfaaGreatDoor.Dms Go.Joins
open Go.Proofs.YtmenmepdmojnfaaGreatDoor.Reg hiding add_none

theorem unc_case (L : List Dm) (C : List (Int × Int)) {k : Nat} (hk : k < C.length) : (atI L C[k].1 C[k].2 < 0 ∧ unc L (C.take (k + 1)) = unc L (C.take k) ++ [C[k]]) ∨ (¬ atI L C[k].1 C[k].2 < 0 ∧ unc L (C.take (k + 1)) = unc L (C.take k)) := by
  have h := atI_neg (L := L) (x := C[k].1) (y := C[k].2)
  cases ha : anyM L C[k].1 C[k].2 with
  | false => rw [ha] at h; exact .inl ⟨by simpa using h, unc_yes hk ha⟩
  | true => rw [ha] at h; exact .inr ⟨by simpa using h, unc_no hk ha⟩
def RdC (W : World) (b off : Nat) (C : List (Int × Int)) : Prop :=
  (0 < C.length → b < W.heap.size) ∧ ∀ j p, C[j]? = some p → W.cell? ⟨b, off + j * 2, none⟩ = some (.int .i64 p.1) ∧ W.cell? ⟨b, off + j * 2 + 1, none⟩ = some (.int .i64 p.2)
theorem RdC.same {W W' : World} {b off : Nat} {C : List (Int × Int)} (h : RdC W b off C) (hz : W.heap.size ≤ W'.heap.size) (hb : 0 < C.length → W'.heap[b]? = W.heap[b]?) : RdC W' b off C := by
  refine ⟨fun h0 => Nat.lt_of_lt_of_le (h.1 h0) hz, fun j p hp => ?_⟩
  have h0 : 0 < C.length := by have := (List.getElem?_eq_some_iff.1 hp).1; omega
  obtain ⟨a, c⟩ := h.2 j p hp
  exact ⟨(World.cell?_of_block (a := ⟨b, off + j * 2, none⟩) (hb h0)).trans a, (World.cell?_of_block (a := ⟨b, off + j * 2 + 1, none⟩) (hb h0)).trans c⟩
theorem RdC.on {W W' : World} {b off : Nat} {C : List (Int × Int)} (h : RdC W b off C) (hb : Below W.heap.size W W') : RdC W' b off C := h.same hb.size fun h0 => hb.block b (h.1 h0)
theorem RdC.grown {W W' : World} {b off g : Nat} {C : List (Int × Int)} (h : RdC W b off C) (hg : W.grownBy W' (some g)) (hne : 0 < C.length → g ≠ b) : RdC W' b off C :=
  h.same hg.size fun h0 => hg.block b (h.1 h0) (by intro e; injection e with e; exact hne h0 e.symm)

set_option maxRecDepth 100000 in
set_option maxHeartbeats 2000000 in
theorem sUncoveredOf (w : World) (A : Option Addr) (n cap B : Nat) (xs : List Int) (hx : xs.length = n) (hn : (n : Int) ≤ 9223372036854775807) (h : RowB w B A xs) (hB : B ≤ w.heap.size)
    (A' : Option Addr) (n' cap' B' : Nat) (L : List Dm) (hL : L.length = n') (hn' : (n' : Int) ≤ 9223372036854775807) (h' : RowM w B' A' L) (hB' : B' ≤ w.heap.size) :
    Calls Tryz.prog 123 #[.agg #[.slice A n cap], .slice A' n' cap'] w (NbPost (unc L (cellsR xs)) w) := by
  obtain ⟨i0, hi, hz0, hz1, hz2⟩ := info_parts cellInfo
  have HM := Lib.hid (fun (W : World) => World.ownsRow_made (e := 67) (size := 2) W #[] 0 (Nat.le_refl _) (by unfold maxLen; omega) rfl)
  have HC := Lib.hid (fun W (hb : Below w.heap.size w W) => sCellsOf W A n cap B xs hx hn (h.below hb hB) (by have := hb.size; omega))
  have HA := Lib.hid (fun W (hb : Below w.heap.size w W) x y => sDominoAt W A' n' cap' B' L hL hn' (h'.below hb hB') (by have := hb.size; omega) x y)
  have HS := Lib.hid (fun (o : Obj) => below_alloc1 w o)
  have HLC := cellsR_length xs
  generalize cellsR xs = C at HC HLC ⊢
  have HU := Lib.hid (fun k (hk : k < C.length) => unc_case L C hk)
  have HUL := Lib.hid (fun k => unc_length L (C.take k))
  clear hx hn h hB hL hn' h' hB'
  go_enter Tryz.func123, Tryz.ntmps123
  go_wp2_with fail
  have hbw0 := HS.out (.cells #[.slice A n cap] 26)
  have hown0 := HM.out (w.alloc (.cells #[.slice A n cap] 26))
  have hz0w : (w.alloc (.cells #[.slice A n cap] 26)).heap.size = w.heap.size + 1 := by simp
  generalize w.alloc (.cells #[.slice A n cap] 26) = W0 at hbw0 hown0 hz0w ⊢
  have hbw := hbw0.alloc hbw0.size (.cells #[] 67)
  have hz1w : (W0.alloc (.cells #[] 67)).heap.size = w.heap.size + 2 := by simp [hz0w]
  rw [hz0w] at hown0
  generalize W0.alloc (.cells #[] 67) = W1 at hbw hown0 hz1w ⊢
  refine (HC.out _ hbw).mono ?_
  rintro e w1 ⟨A1, cap1, rfl, hown1, hb1⟩
  have hbw1 := hbw.trans (hb1.mono hbw.size)
  obtain ⟨b, off, hA1, hR1⟩ := rowC_own hown1
  have R1 : RdC w1 b off C := ⟨fun h0 => (hA1 h0).2, hR1⟩
  have hb2 : 0 < C.length → w.heap.size + 2 ≤ b := fun h0 => by
    obtain ⟨g, c, hv, hg, _⟩ := hown1.form h0
    have e := (hA1 h0).1
    rw [e] at hv
    injection hv with hv
    injection hv with hv
    injection hv with hv
    omega
  have HA1 := Lib.hid (fun h0 => (hA1 h0).1)
  have HOwn0 := Lib.hid (Reg.own_base (B' := w.heap.size + 1) (Reg.own_below hown0 hb1 (Nat.le_refl _)) (by omega))
  have HB1 := Lib.hid hb1.size
  clear HC HS hb1 hA1 hR1 hbw0 hbw hz0w hown0 hown1 HM
  go_wp2_with fail
  go_loopw [5, 7] (fun v i wr => ∃ j g c : Nat, j ≤ C.length ∧ i = .int .i64 j ∧ v = .slice (some ⟨g, 0, none⟩) (unc L (C.take j)).length c ∧ wr.ownsRow (w.heap.size + 1) 67 2 v (unc L (C.take j)).length (rowC (unc L (C.take j))) ∧ Below w.heap.size w wr ∧ RdC wr b off C ∧ Hid (0 < C.length → g ≠ b)) (fun _ i _ => C.length - (intOf i).toNat)
  case atStart => exact ⟨0, w.heap.size + 1, 0, Nat.zero_le _, rfl, by simp [unc], by simpa [unc, rowC] using HOwn0.out, hbw1, R1, Lib.hid (fun h0 => by have := hb2 h0; omega)⟩
  case round =>
    clear HOwn0 R1 hbw1
    obtain ⟨j, g, cg, hj, rfl, rfl, hown, hb, R1, hg⟩ := hrel
    have hbs := hb.size
    by_cases hlt : j < C.length
    · obtain rfl := HA1.out (by omega)
      obtain ⟨c0, c1⟩ := R1.2 j C[j] (List.getElem?_eq_getElem hlt)
      have HCs := Lib.hid (HU.out j hlt)
      generalize hcc : C[j] = c at c0 c1 HCs
      obtain ⟨x, y⟩ := c
      simp only at c0 c1
      have HQ := Lib.hid (fun W (hb : Below w.heap.size w W) => HA.out W hb x y)
      generalize atI L x y = q at HQ HCs
      have hLn := HUL.out j
      have HOwn := Lib.hid hown
      clear hown
      have hj64 : (unc L (C.take j)).length ≤ 64 := by have : (C.take j).length ≤ C.length := by rw [List.length_take]; omega
                                                       omega
      generalize hU : unc L (C.take j) = U at HOwn HCs hj64
      clear hLn
      go_wp2_with fail
      refine (HQ.out _ hb).mono ?_
      rintro e w2 ⟨rfl, hE⟩
      have HOwn2 := Lib.hid (Reg.own_below HOwn.out hE (Nat.le_refl _))
      have hB2 := hb.trans (hE.mono hbs)
      have hs2 := hE.size
      have R2 := R1.on hE
      obtain ⟨d0, d1⟩ := R2.2 j (x, y) (by rw [← hcc]; exact List.getElem?_eq_getElem hlt)
      simp only at d0 d1
      clear c0 c1 hE HOwn HQ hb hcc R1
      rcases HCs.out with ⟨hq, hN⟩ | ⟨hq, hN⟩
      · have HN := Lib.hid hN
        clear hN HCs
        go_wp2_with (first
          | (at_builtin; refine wpList_append_lies _ rfl _ _ 31 rfl (w.heap.size + 1) 67 i0 (.agg #[.int .i64 0, .int .i64 0]) 2 16 Tryz.underlying31 hi hz0 hz1 hz2 rfl (by decide) (.slice (some ⟨g, 0, none⟩) U.length cg) U.length (rowC U) (by rfl) (HOwn2.out.alloc _) ⟨w2.heap.size, 0, none⟩ 1 1 [.int .i64 x, .int .i64 y] (by rfl) rfl (World.news_of_block (cs := #[.int .i64 x, .int .i64 y]) (t := 67) (fr := (0, 0)) (heap_alloc_new w2 _)) (by simp [Value.oneCell']) (by decide) (by unfold maxLen; omega) (by omega) (by simp; omega) (w2.heap.size + 1) (by simp) ?_; intro gg capn w3 hown3 hgrow hat hlt3))
        have hgg := HOwn2.out.lt g rfl
        have hb3 : Below w.heap.size w w3 := (hB2.alloc (by omega) _).grown hgrow (by simp; omega) (fun k hk => by have hk2 : g = k := by { injection hk }; omega)
        have R3 : RdC w3 b off C := (R2.on (below_alloc1 w2 _)).grown hgrow hg.out
        have hg3 : 0 < C.length → gg ≠ b := fun h0 => by
          rcases hat with e | e
          · injection e with e; subst e; exact hg.out h0
          · have := R2.1 h0; omega
        have R := Lib.hid (show w3.ownsRow (w.heap.size + 1) 67 2 (.slice (some ⟨gg, 0, none⟩) (U ++ [(x, y)]).length capn) (U ++ [(x, y)]).length (rowC (U ++ [(x, y)])) by
          rw [rowC_snoc, List.length_append]; exact hown3)
        have HG3 := Lib.hid hg3
        have HLn : (U ++ [(x, y)]).length = U.length + 1 := by simp
        clear hown3 hgrow hat hlt3 hgg R2 d0 d1 hU hg3 HOwn2 hB2
        go_wp2
        go_roundw
        case rel => exact ⟨j + 1, gg, capn, by omega, by go_num, by rw [HN.out, HLn], by rw [HN.out]; have := R.out; rw [HLn] at this ⊢; exact this, hb3, R3, HG3⟩
        case measure => (simp [intOf] <;> omega)
      · have HN := Lib.hid hN
        clear hN HCs hU d0 d1
        go_wp2
        go_roundw
        case rel => exact ⟨j + 1, g, cg, by omega, by go_num, by rw [HN.out], by rw [HN.out]; exact HOwn2.out, hB2, R2, hg⟩
        case measure => (simp [intOf] <;> omega)
    · obtain rfl : j = C.length := by omega
      have HOwn := Lib.hid hown
      clear hown
      go_wp2
      go_ret
      rw [List.take_length] at HOwn
      rw [List.take_length]
      exact ⟨_, _, rfl, Reg.own_base HOwn.out (by omega), hb⟩
end Go.Proofs.YtmenmepdmojnfaaGreatDoor.Til

namespace Go.Proofs.YtmenmepdmojnfaaGreatDoor.Til
set_option linter.unusedVariables false
set_option linter.unusedSimpArgs false
open Go.RowKit Go.Joins
open Go.Proofs.YtmenmepdmojnfaaGreatDoor.Reg hiding add_none

def Rg (W : World) (q : Nat) (v : Value) : Prop := W.heap[q]? = some (.cells #[v] 26)
theorem Rg.on {W W' : World} {q : Nat} {v : Value} (h : Rg W q v) (hb : Below W.heap.size W W') : Rg W' q v := (hb.block q (Array.getElem?_eq_some_iff.1 h).1).trans h
theorem Rg.c0 {W : World} {q : Nat} {v : Value} (h : Rg W q v) : W.cell? ⟨q, 0, none⟩ = some v := (cell_of_row _ _ 0 _ _ _ h).trans rfl
theorem Rg.lt {W : World} {q : Nat} {v : Value} (h : Rg W q v) : q < W.heap.size := (Array.getElem?_eq_some_iff.1 h).1
theorem Rg.new (W : World) (v : Value) : Rg (W.alloc (.cells #[v] 26)) W.heap.size v := heap_alloc_new W _
section
variable {w W W' : World} {v : Value} {x y : Int} {b : Bool}
end
end Go.Proofs.YtmenmepdmojnfaaGreatDoor.Til
