/- RegCl in one text. -/
import Derived.Test.YtmajllgfmclcoaaMb11
import Derived.Test.YtmajllgfmclcoaaMb13
import Derived.Test.YtmajllgfmclcoaaMb17
import Derived.Deep.DeepAppendRoom

namespace Go.Proofs.Ytmajllgfmclcoaa.Reg
set_option linter.unusedVariables false
open Go.RowKit Go.Proofs.Ytmajllgfmclcoaa.Base Go.Proofs.Ytmajllgfmclcoaa.Pure Go.Proofs.Ytmajllgfmclcoaa.Cell Go.Proofs.Ytmajllgfmclcoaa.Cels Go.Joins

theorem cellsTo_yes' {xs : List Int} {y x : Nat} (hx : x < 8) (h : bitB (rowD xs y) x = true) : cellsTo xs (y * 8 + x + 1) = cellsTo xs (y * 8 + x) ++ [((x : Int), (y : Int))] := by
 have e1 : (y * 8 + x) / 8 = y := by omega
 have e2 : (y * 8 + x) % 8 = x := by omega
 rw [cellsTo_yes (by rw [e1, e2]; exact h), e1, e2]
theorem cellsTo_no' {xs : List Int} {y x : Nat} (hx : x < 8) (h : bitB (rowD xs y) x = false) : cellsTo xs (y * 8 + x + 1) = cellsTo xs (y * 8 + x) := by
 have e1 : (y * 8 + x) / 8 = y := by omega
 have e2 : (y * 8 + x) % 8 = x := by omega
 rw [cellsTo_no (by rw [e1, e2]; exact h)]
theorem at_nat {k : Nat} (hk : k < 64) : atX (k : Int) = ((k % 8 : Nat) : Int) ∧ atY (k : Int) = ((k / 8 : Nat) : Int) := by
 obtain ⟨a, b, _⟩ := at_in (n := (k : Int)) (by omega) (by omega)
 rw [a, b]; constructor <;> omega

set_option maxRecDepth 100000 in
set_option maxHeartbeats 2000000 in
theorem sCellsOf (w : World) (A : Option Addr) (n cap B : Nat) (xs : List Int) (hx : xs.length = n) (hn : (n : Int) ≤ 9223372036854775807) (h : RowB w B A xs) (hB : B ≤ w.heap.size) :
  Calls Try.prog 41 #[.agg #[.slice A n cap]] w (NbPost (cellsR xs) w) := by
 obtain ⟨i0, hi, hz0, hz1, hz2⟩ := info_parts cellInfo
 have HM := Lib.hid (fun (W : World) => World.ownsRow_made (e := 56) (size := 2) W #[] 0 (Nat.le_refl _) (by unfold maxLen; omega) rfl)
 have HB := Lib.hid (fun (T : TypeId) => (rb_start (T := T) (.slice A n cap) w).2.2)
 have HW := Lib.hid (fun (T : TypeId) => below_alloc1 w (.cells #[.slice A n cap] T))
 have HOk := Lib.hid (fun W (hb : Below w.heap.size w W) => sRegionOk W A n cap B xs hx hn (h.below hb hB) (by have := hb.size; omega))
 have HHs := Lib.hid (fun W (ho : okR xs) (hb : Below w.heap.size w W) x y hx8 hy8 => sHas W A n cap B xs hx ho (h.below hb hB) (by have := hb.size; omega) x y hx8 hy8)
 clear hx hn h hB
 go_enter Try.func41, Try.ntmps41
 go_wp2_with fail
 have HW1 := Lib.hid (show Below (w.heap.size + 1) (w.alloc (.cells #[.slice A n cap] 29)) ((w.alloc (.cells #[.slice A n cap] 29)).alloc (.cells #[] 56)) from (Below.refl _ _).alloc (by simp) _)
 have HO := Lib.hid (own_base (B' := w.heap.size + 1) (HM.out (w.alloc (.cells #[.slice A n cap] 29))) (by simp))
 have hW0 : (w.alloc (.cells #[.slice A n cap] 29)).heap.size = w.heap.size + 1 := by simp
 have HB0 := Lib.hid (HB.out 29)
 have HBw := Lib.hid (HW.out 29)
 clear HM HB HW
 obtain ⟨W0, hW⟩ : ∃ W0, W0 = w.alloc (.cells #[.slice A n cap] 29) := ⟨_, rfl⟩
 rw [← hW] at HW1 HO hW0 HB0 HBw
 rw [hW0] at HO
 by_cases ho : okR xs
 ·rw [okRB_of ho] at HOk
  have HE := Lib.hid (cellsR_ok ho)
  have HHs := Lib.hid (fun W hb x y hx8 hy8 => HHs.out W ho hb x y hx8 hy8)
  clear ho
  go_loopw [3, 4] (fun v i wr => ∃ k : Nat, k ≤ 64 ∧ i = .int .i64 k ∧ wr.ownsRow (w.heap.size + 1) 56 2 v (cellsTo xs k).length (rowC (cellsTo xs k)) ∧ Below (w.heap.size + 1) W0 wr) (fun _ i _ => 64 - (intOf i).toNat)
  case atStart => exact ⟨0, Nat.zero_le _, rfl, by rw [hW] at HO; simpa [cellsTo, rowC] using HO.out, by rw [hW] at HW1 ⊢; exact HW1.out⟩
  case round =>
   clear HW1 HO
   obtain ⟨k, hk, rfl, hown, hb⟩ := hrel
   have hbs := hb.size
   rw [hW0] at hbs
   by_cases hlt : k < 64
   ·have hbw := HBw.out.trans (hb.mono (by omega))
    have hc0 := (hb.cell (p := ⟨w.heap.size, 0, none⟩) (by show w.heap.size < _; omega)).trans HB0.out
    go_wp2_with fail
    refine (HOk.out wr hbw).mono ?_
    rintro e w0 ⟨rfl, hbk⟩
    have hown := own_below hown hbk (Nat.le_refl _)
    have hb := hb.trans (hbk.mono (by omega))
    have hbs0 := hbk.size
    clear hbk hc0 hbw
    go_wp2_with fail
    refine (sCellAt k _).mono ?_
    rintro e w1 ⟨rfl, hb1⟩
    have hown1 := own_below hown hb1 (Nat.le_refl _)
    have hbb := hb.trans (hb1.mono (by omega))
    have hb1s := hb1.size
    have hc0 := (hbb.cell (p := ⟨w.heap.size, 0, none⟩) (by show w.heap.size < _; omega)).trans HB0.out
    have hz : w.heap.size < w1.heap.size := by omega
    have hbw := HBw.out.trans (hbb.mono (by omega))
    have HOwn := Lib.hid hown1
    have HBB := Lib.hid hbb
    have HS := Lib.hid hb1s
    have HS0 := Lib.hid hbs0
    have HBs := Lib.hid hbs
    obtain ⟨hax, hay⟩ := at_nat hlt
    rw [hax, hay]
    have HC := Lib.hid (HHs.out _ (hbw.alloc hbw.size (.cells #[.int .i64 ((k % 8 : Nat) : Int), .int .i64 ((k / 8 : Nat) : Int)] 56)) (k % 8) (k / 8) (by omega) (by omega))
    have hn' : bitB (rowD xs (k / 8)) (k % 8) = true ∧ cellsTo xs (k + 1) = cellsTo xs k ++ [(((k % 8 : Nat) : Int), ((k / 8 : Nat) : Int))] ∨ bitB (rowD xs (k / 8)) (k % 8) = false ∧ cellsTo xs (k + 1) = cellsTo xs k := by
     cases hb : bitB (rowD xs (k / 8)) (k % 8) with
     | true => exact .inl ⟨rfl, cellsTo_yes hb⟩
     | false => exact .inr ⟨rfl, cellsTo_no hb⟩
    have HN' := Lib.hid hn'
    clear hown hb hb1 hown1 hbb hb1s hbs hbs0 hax hay hn' hbw
    generalize bitB (rowD xs (k / 8)) (k % 8) = bb at HC HN'
    generalize ((k % 8 : Nat) : Int) = u at HC HN' ⊢
    generalize ((k / 8 : Nat) : Int) = v' at HC HN' ⊢
    go_wp2_with fail
    refine HC.out.mono ?_
    rintro e w2 ⟨rfl, hb2⟩
    clear HC
    have hcc : w2.cell? ⟨w1.heap.size, 0, none⟩ = some (.int .i64 u) ∧ w2.cell? ⟨w1.heap.size, 1, none⟩ = some (.int .i64 v') := by
     have hbl := heap_alloc_new w1 (.cells #[.int .i64 u, .int .i64 v'] 56)
     exact ⟨(hb2.cell (by simp)).trans ((cell_of_row _ _ 0 _ _ _ hbl).trans rfl), (hb2.cell (by simp)).trans ((cell_of_row _ _ 1 _ _ _ hbl).trans rfl)⟩
    obtain ⟨hc2, hc3⟩ := hcc
    have hD : Below (w.heap.size + 1) W0 w2 := (HBB.out.alloc (by have := HS.out; have := HS0.out; have := HBs.out; omega) _).trans (hb2.mono (by simp; have := HS.out; have := HS0.out; have := HBs.out; omega))
    have hE : Below w1.heap.size w1 w2 := (below_alloc1 w1 _).trans (hb2.mono (by simp))
    have HOwn2 := Lib.hid (own_below HOwn.out hE (Nat.le_refl _))
    have hzz : w1.heap.size < w2.heap.size := by have := hb2.size; simp at this; omega
    have HD := Lib.hid hD
    clear hD hE hb2 hc0
    rcases HN'.out with ⟨rfl, hN⟩ | ⟨rfl, hN⟩
    ·have HN := Lib.hid hN
     clear hN HN'
     have HL := Lib.hid (cellsTo_length xs k)
     go_wp2_with (first
      | (at_builtin; refine wpList_append_own _ rfl _ _ 63 rfl (w.heap.size + 1) 56 i0 (.agg #[.int .i64 0, .int .i64 0]) 2 16 Try.underlying63 hi hz0 hz1 hz2 rfl (by decide) _ (cellsTo xs k).length (rowC (cellsTo xs k)) rfl (HOwn2.out.alloc _) ⟨w2.heap.size, 0, none⟩ 1 1 [.int .i64 u, .int .i64 v'] rfl rfl (World.news_of_block (cs := #[.int .i64 u, .int .i64 v']) (t := 56) (fr := (0, 0)) (heap_alloc_new w2 _)) (by simp [Value.oneCell']) (by have := HL.out; unfold maxLen; omega) (by have := HL.out; omega) (by have := HS.out; have := HS0.out; have := HBs.out; simp; omega) ?_; intro v2 w3 hown3 hgrow _))
     have hb3 : Below (w.heap.size + 1) W0 w3 := (HD.out.alloc (by have := HS.out; have := HS0.out; have := HBs.out; omega) _).grown hgrow (by simp; have := HS.out; have := HS0.out; have := HBs.out; omega) (fun g hg => (HOwn2.out.lt g hg).1)
     have R := Lib.hid (show w3.ownsRow (w.heap.size + 1) 56 2 v2 (cellsTo xs (k + 1)).length (rowC (cellsTo xs (k + 1))) by
      rw [HN.out, rowC_snoc, List.length_append]; exact hown3)
     clear hown3 hgrow
     go_wp2
     go_roundw
     case rel => exact ⟨k + 1, by omega, by go_num, R.out, hb3⟩
     case measure => (simp [intOf] <;> omega)
    ·have HN := Lib.hid hN
     clear hN HN'
     go_wp2
     go_roundw
     case rel => exact ⟨k + 1, by omega, by go_num, by rw [HN.out]; exact HOwn2.out, HD.out⟩
     case measure => (simp [intOf] <;> omega)
   ·obtain rfl : k = 64 := by omega
    obtain ⟨A, cap, rfl⟩ := own_shape hown
    have HOwn := Lib.hid hown
    have HEnd := Lib.hid (HBw.out.trans (hb.mono (B' := w.heap.size) (by omega)))
    clear hown hb
    go_wp2
    go_ret
    rw [HE.out]
    exact ⟨A, cap, rfl, own_base HOwn.out (by omega), HEnd.out⟩
 ·rw [okRB_not ho] at HOk
  have HE := Lib.hid (cellsR_not ho)
  clear ho HHs
  go_loopw [3, 4] (fun v i wr => i = .int .i64 0 ∧ wr.ownsRow (w.heap.size + 1) 56 2 v 0 [] ∧ Below (w.heap.size + 1) W0 wr) (fun _ i _ => 64 - (intOf i).toNat)
  case atStart => exact ⟨rfl, by rw [hW] at HO; exact HO.out, by rw [hW] at HW1 ⊢; exact HW1.out⟩
  case round =>
   clear HW1 HO
   obtain ⟨rfl, hown, hb⟩ := hrel
   have hbs := hb.size
   rw [hW0] at hbs
   have hbw := HBw.out.trans (hb.mono (by omega))
   have hc0 := (hb.cell (p := ⟨w.heap.size, 0, none⟩) (by show w.heap.size < _; omega)).trans HB0.out
   go_wp2_with fail
   refine (HOk.out wr hbw).mono ?_
   rintro e w0 ⟨rfl, hbk⟩
   have hown := own_below hown hbk (Nat.le_refl _)
   have hb := hbw.trans (hbk.mono (B' := w.heap.size) (by omega))
   obtain ⟨A, cap, rfl⟩ := own_shape hown
   have HOwn := Lib.hid hown
   clear hown hbk hc0 hbw
   go_wp2
   go_ret
   rw [HE.out]
   exact ⟨A, cap, rfl, own_base HOwn.out (by omega), hb⟩

set_option maxRecDepth 100000 in
set_option maxHeartbeats 2000000 in
theorem iCellsOf (w : World) (A : Option Addr) (n cap B : Nat) (xs : List Int) (hx : xs.length = n) (hn : (n : Int) ≤ 9223372036854775807) (h : RowB w B A xs) (hB : B ≤ w.heap.size) :
  Calls Try.prog 50 #[.agg #[.slice A n cap]] w (NbPost (cellsR xs) w) := by
 obtain ⟨i0, hi, hz0, hz1, hz2⟩ := info_parts cellInfo
 have T0 := Lib.hid (fun T => rb_start (T := T) (.slice A n cap) w)
 have HOk := Lib.hid (fun W (hb : Below w.heap.size w W) => iRegionOk W A n cap B xs hx hn (h.below hb hB) (by have := hb.size; omega))
 have HRow := Lib.hid (fun W (hb : Below w.heap.size w W) => h.below hb hB)
 have HX := Lib.hid hx
 clear hx h
 go_enter Try.func50, Try.ntmps50
 go_wp2_with fail
 have T1 := T0.out 29
 refine (HOk.out _ T1.1).mono ?_
 rintro e w1 ⟨rfl, hb1⟩
 have T2 := T1.on hb1
 clear T0 T1 hb1 HOk
 have hbw := T2.1
 by_cases ho : okR xs
 ·rw [okRB_of ho]
  have HE := Lib.hid (show cellsR xs = cellsTo xs (n * 8) by rw [cellsR_ok' ho, HX.out])
  obtain ⟨_, hsz, c0⟩ := id T2
  have hn8 : n ≤ 8 := by have := ho.1; have := HX.out; omega
  have HNil := Lib.hid (World.ownsRow_nil w1 w.heap.size 56 2)
  have HOR := Lib.hid (fun y => rowD_ok ho y)
  have HXR := Lib.hid (fun y (hy : y < xs.length) => rowD_at (List.getElem?_eq_getElem (l := xs) hy))
  clear T2 ho
  go_wp2_with fail
  go_loopw [3, 13] (fun v i wr => ∃ y : Nat, y ≤ n ∧ i = .int .i64 y ∧ wr.ownsRow w.heap.size 56 2 v (cellsTo xs (y * 8)).length (rowC (cellsTo xs (y * 8))) ∧ Below w.heap.size w wr) (fun _ i _ => n - (intOf i).toNat)
  case atStart => exact ⟨0, Nat.zero_le _, rfl, by simpa [cellsTo, rowC] using HNil.out, hbw⟩
  case round =>
   clear HNil hbw c0 hsz
   obtain ⟨y, hy, rfl, hown, hb⟩ := hrel
   have hbs := hb.size
   by_cases hlt : y < n
   ·have hyx : y < xs.length := by have := HX.out; omega
    obtain ⟨b, off, hA, hc⟩ := HRow.out wr hb
    obtain ⟨rfl, hbB⟩ := hA (by omega)
    have hc1 := hc y xs[y] (List.getElem?_eq_getElem hyx)
    have hr := HOR.out y
    have HRE := Lib.hid (HXR.out y hyx)
    rw [HRE.out] at hr
    generalize xs[y] = r at hc1 hr HRE
    have HKd := Lib.hid (fun x hx8 W => iKindAt r x hr.1 hr.2 hx8 W)
    have HOwn0 := Lib.hid hown
    clear hA hc hr hown
    go_wp2_with fail
    go_loopw [3, 18] (fun v i wr => ∃ x : Nat, x ≤ 8 ∧ i = .int .i64 x ∧ wr.ownsRow w.heap.size 56 2 v (cellsTo xs (y * 8 + x)).length (rowC (cellsTo xs (y * 8 + x))) ∧ Below w.heap.size w wr) (fun _ i _ => 8 - (intOf i).toNat)
    case atStart => exact ⟨0, Nat.zero_le _, rfl, HOwn0.out, hb⟩
    case round =>
     clear HOwn0 hb hc1
     obtain ⟨x, hx8, rfl, hown, hb⟩ := hrel
     have hbs := hb.size
     by_cases hlx : x < 8
     ·have HC := Lib.hid (fun W => HKd.out x hlx W)
      have hcs : kindN r x = 1 ∧ Hid (cellsTo xs (y * 8 + (x + 1)) = cellsTo xs (y * 8 + x) ++ [((x : Int), (y : Int))]) ∨ kindN r x = 0 ∧ Hid (cellsTo xs (y * 8 + (x + 1)) = cellsTo xs (y * 8 + x)) := by
       cases hb : bitB r x with
       | true => exact .inl ⟨kindN_yes hb, Lib.hid (cellsTo_yes' hlx (by rw [HRE.out]; exact hb))⟩
       | false => exact .inr ⟨kindN_no hb, Lib.hid (cellsTo_no' hlx (by rw [HRE.out]; exact hb))⟩
      generalize kindN r x = kd at HC hcs
      have HOwn2 := Lib.hid hown
      have HL := Lib.hid (cellsTo_length xs (y * 8 + x))
      clear hown
      go_wp2_with fail
      refine (HC.out _).mono ?_
      rintro e w2 ⟨rfl, rfl⟩
      clear HC
      rcases hcs with ⟨rfl, HN⟩ | ⟨rfl, HN⟩
      ·go_wp2_with (first
        | (at_builtin; refine wpList_append_own _ rfl _ _ 63 rfl w.heap.size 56 i0 (.agg #[.int .i64 0, .int .i64 0]) 2 16 Try.underlying63 hi hz0 hz1 hz2 rfl (by decide) _ (cellsTo xs (y * 8 + x)).length (rowC (cellsTo xs (y * 8 + x))) rfl (HOwn2.out.alloc _) ⟨w2.heap.size, 0, none⟩ 1 1 [.int .i64 (x : Int), .int .i64 (y : Int)] rfl rfl (World.news_of_block (cs := #[.int .i64 (x : Int), .int .i64 (y : Int)]) (t := 56) (fr := (0, 0)) (heap_alloc_new w2 _)) (by simp [Value.oneCell']) (by have := HL.out; unfold maxLen; omega) (by have := HL.out; omega) (by simp; omega) ?_; intro v2 w3 hown3 hgrow _))
       have hb3 : Below w.heap.size w w3 := (hb.alloc hbs _).grown hgrow (by simp; omega) (fun g hg => (HOwn2.out.lt g hg).1)
       have R := Lib.hid (show w3.ownsRow w.heap.size 56 2 v2 (cellsTo xs (y * 8 + (x + 1))).length (rowC (cellsTo xs (y * 8 + (x + 1)))) by
        rw [HN.out, rowC_snoc, List.length_append]; exact hown3)
       clear hown3 hgrow hb
       go_wp2
       go_roundw
       case rel => exact ⟨x + 1, by omega, by go_num, R.out, hb3⟩
       case measure => (simp [intOf] <;> omega)
      ·go_wp2
       go_roundw
       case rel => exact ⟨x + 1, by omega, by go_num, by rw [HN.out]; exact HOwn2.out, hb⟩
       case measure => (simp [intOf] <;> omega)
     ·obtain rfl : x = 8 := by omega
      have HOwn2 := Lib.hid (show _ by rw [show y * 8 + 8 = (y + 1) * 8 by omega] at hown; exact hown)
      clear hown
      go_wp2
      go_roundw
      case rel => exact ⟨y + 1, by omega, by go_num, HOwn2.out, hb⟩
      case measure => (simp [intOf] <;> omega)
   ·obtain rfl : y = n := by omega
    obtain ⟨A', cap', rfl⟩ := own_shape hown
    have HOwn := Lib.hid hown
    clear hown
    go_wp2
    go_ret
    rw [HE.out]
    exact ⟨A', cap', rfl, HOwn.out, hb⟩
 ·rw [okRB_not ho]
  have HE := Lib.hid (cellsR_not ho)
  clear ho T2
  go_wp2
  go_ret
  rw [HE.out]
  exact ⟨none, 0, rfl, ⟨rfl, .inl ⟨rfl, rfl⟩⟩, hbw⟩
end Go.Proofs.Ytmajllgfmclcoaa.Reg
