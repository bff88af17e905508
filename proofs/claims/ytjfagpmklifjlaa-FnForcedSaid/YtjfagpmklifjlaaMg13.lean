/- CelM, RegCl, RegCn, CoL in one text. -/
import Derived.Test.YtjfagpmklifjlaaMg00
import Derived.OwnWalk
import Derived.Laws.AppendOwn
import Derived.Deep.AppendLies
import Derived.Laws.OwnMore
import Derived.Deep.RegionHeld3
import Derived.Test.YtjfagpmklifjlaaMg07
import Derived.Deep.DeepAppendRoom
import Derived.Test.YtjfagpmklifjlaaMg12

namespace Go.Proofs.Ytjfagpmklifjlaa.Cels
set_option linter.unusedVariables false
open Go.RowKit Go.Proofs.Ytjfagpmklifjlaa.Base Go.Joins

def rowC (L : List (Int × Int)) : List Value := L.flatMap fun p => [.int .i64 p.1, .int .i64 p.2]
theorem rowC_snoc (L : List (Int × Int)) (p : Int × Int) : rowC (L ++ [p]) = rowC L ++ [.int .i64 p.1, .int .i64 p.2] := by unfold rowC; simp
theorem rowC_length (L : List (Int × Int)) : (rowC L).length = L.length * 2 := by
 induction L with
 | nil => rfl
 | cons p L ih => unfold rowC at ih ⊢; simp [ih]; omega
def NbPost (L : List (Int × Int)) (w : World) (e : Ending) (w' : World) : Prop :=
 ∃ (A : Option Addr) (cap : Nat), e = .returned (.slice A L.length cap) ∧ w'.ownsRow w.heap.size 38 2 (.slice A L.length cap) L.length (rowC L) ∧ Below w.heap.size w w'

theorem cellInfo : (Try.prog.info? 38).map (fun i => (i.zero, i.size, i.bytes)) = some (some (.agg #[.int .i64 0, .int .i64 0]), 2, 16) := by kernel_rfl

theorem rowC_at (L : List (Int × Int)) : ∀ (j : Nat) (p : Int × Int), L[j]? = some p → (rowC L)[j * 2]? = some (.int .i64 p.1) ∧ (rowC L)[j * 2 + 1]? = some (.int .i64 p.2) := by
 induction L with
 | nil => intro j p h; simp at h
 | cons q L ih =>
  intro j p h
  have e : rowC (q :: L) = .int .i64 q.1 :: .int .i64 q.2 :: rowC L := rfl
  rw [e]
  cases j with
  | zero => simp at h; subst h; exact ⟨rfl, rfl⟩
  | succ j =>
   have h' : L[j]? = some p := by simpa using h
   rw [show (j + 1) * 2 = j * 2 + 1 + 1 from by omega]
   exact ih j p h'
def RowC (w : World) (A : Option Addr) (L : List (Int × Int)) : Prop :=
 ∃ b off : Nat, (0 < L.length → A = some ⟨b, off, none⟩ ∧ b < w.heap.size) ∧ ∀ j p, L[j]? = some p → w.cell? ⟨b, off + j * 2, none⟩ = some (.int .i64 p.1) ∧ w.cell? ⟨b, off + j * 2 + 1, none⟩ = some (.int .i64 p.2)
theorem rowC_own {w : World} {base e n cap : Nat} {A : Option Addr} {L : List (Int × Int)} (h : w.ownsRow base e 2 (.slice A n cap) n (rowC L)) : RowC w A L := by
 have hn : L.length = n := by have := h.1; rw [rowC_length] at this; omega
 by_cases h0 : L.length = 0
 ·have : L = [] := List.eq_nil_of_length_eq_zero h0
  subst this
  exact ⟨0, 0, fun h => by simp at h, fun j u hu => by simp at hu⟩
 ·obtain ⟨g, c, hv, _, hlt⟩ := h.form (by omega)
  injection hv with hA
  subst hA
  refine ⟨g, 0, fun _ => ⟨rfl, hlt⟩, fun j p hp => ?_⟩
  obtain ⟨h1, h2⟩ := rowC_at L j p hp
  have c1 := h.cells (g := g) rfl _ _ h1
  have c2 := h.cells (g := g) rfl _ _ h2
  rw [add_plain] at c1 c2
  simp only [Nat.zero_add]
  exact ⟨c1, c2⟩
end Go.Proofs.Ytjfagpmklifjlaa.Cels

namespace Go.Proofs.Ytjfagpmklifjlaa.Reg
set_option linter.unusedVariables false
open Go.RowKit Go.Proofs.Ytjfagpmklifjlaa.Base Go.Proofs.Ytjfagpmklifjlaa.Pure Go.Proofs.Ytjfagpmklifjlaa.Cell Go.Proofs.Ytjfagpmklifjlaa.Cels Go.Joins

theorem cellsTo_yes' {xs : List Int} {y x : Nat} (hx : x < 8) (h : bitB (rowD xs y) x = true) : cellsTo xs (y * 8 + x + 1) = cellsTo xs (y * 8 + x) ++ [((x : Int), (y : Int))] := by
 have e1 : (y * 8 + x) / 8 = y := by omega
 have e2 : (y * 8 + x) % 8 = x := by omega
 rw [cellsTo_yes (by rw [e1, e2]; exact h), e1, e2]
theorem cellsTo_no' {xs : List Int} {y x : Nat} (hx : x < 8) (h : bitB (rowD xs y) x = false) : cellsTo xs (y * 8 + x + 1) = cellsTo xs (y * 8 + x) := by
 have e1 : (y * 8 + x) / 8 = y := by omega
 have e2 : (y * 8 + x) % 8 = x := by omega
 rw [cellsTo_no (by rw [e1, e2]; exact h)]
theorem at_nat {k : Nat} (hk : k < 64) : atX (k : Int) = ((k % 8 : Nat) : Int) ∧ atY (k : Int) = ((k / 8 : Nat) : Int) := by
 obtain ⟨a, b, _⟩ := at_in (n := (k : Int)) (by omega) (by omega)
 rw [a, b]; constructor <;> omega

set_option maxRecDepth 100000 in
set_option maxHeartbeats 2000000 in
theorem sCellsOf (w : World) (A : Option Addr) (n cap B : Nat) (xs : List Int) (hx : xs.length = n) (hn : (n : Int) ≤ 9223372036854775807) (h : RowB w B A xs) (hB : B ≤ w.heap.size) :
  Calls Try.prog 16 #[.agg #[.slice A n cap]] w (NbPost (cellsR xs) w) := by
 obtain ⟨i0, hi, hz0, hz1, hz2⟩ := info_parts cellInfo
 have HM := Lib.hid (fun (W : World) => World.ownsRow_made (e := 38) (size := 2) W #[] 0 (Nat.le_refl _) (by unfold maxLen; omega) rfl)
 have HB := Lib.hid (fun (T : TypeId) => (rb_start (T := T) (.slice A n cap) w).2.2)
 have HW := Lib.hid (fun (T : TypeId) => below_alloc1 w (.cells #[.slice A n cap] T))
 have HOk := Lib.hid (fun W (hb : Below w.heap.size w W) => sRegionOk W A n cap B xs hx hn (h.below hb hB) (by have := hb.size; omega))
 have HHs := Lib.hid (fun W (ho : okR xs) (hb : Below w.heap.size w W) x y hx8 hy8 => sHas W A n cap B xs hx ho (h.below hb hB) (by have := hb.size; omega) x y hx8 hy8)
 clear hx hn h hB
 go_enter Try.func16, Try.ntmps16
 go_wp2_with fail
 have HW1 := Lib.hid (show Below (w.heap.size + 1) (w.alloc (.cells #[.slice A n cap] 26)) ((w.alloc (.cells #[.slice A n cap] 26)).alloc (.cells #[] 38)) from (Below.refl _ _).alloc (by simp) _)
 have HO := Lib.hid (own_base (B' := w.heap.size + 1) (HM.out (w.alloc (.cells #[.slice A n cap] 26))) (by simp))
 have hW0 : (w.alloc (.cells #[.slice A n cap] 26)).heap.size = w.heap.size + 1 := by simp
 have HB0 := Lib.hid (HB.out 26)
 have HBw := Lib.hid (HW.out 26)
 clear HM HB HW
 obtain ⟨W0, hW⟩ : ∃ W0, W0 = w.alloc (.cells #[.slice A n cap] 26) := ⟨_, rfl⟩
 rw [← hW] at HW1 HO hW0 HB0 HBw
 rw [hW0] at HO
 by_cases ho : okR xs
 ·rw [okRB_of ho] at HOk
  have HE := Lib.hid (cellsR_ok ho)
  have HHs := Lib.hid (fun W hb x y hx8 hy8 => HHs.out W ho hb x y hx8 hy8)
  clear ho
  go_loopw [3, 4] (fun v i wr => ∃ k : Nat, k ≤ 64 ∧ i = .int .i64 k ∧ wr.ownsRow (w.heap.size + 1) 38 2 v (cellsTo xs k).length (rowC (cellsTo xs k)) ∧ Below (w.heap.size + 1) W0 wr) (fun _ i _ => 64 - (intOf i).toNat)
  case atStart => exact ⟨0, Nat.zero_le _, rfl, by rw [hW] at HO; simpa [cellsTo, rowC] using HO.out, by rw [hW] at HW1 ⊢; exact HW1.out⟩
  case round =>
   clear HW1 HO
   obtain ⟨k, hk, rfl, hown, hb⟩ := hrel
   have hbs := hb.size
   rw [hW0] at hbs
   by_cases hlt : k < 64
   ·have hbw := HBw.out.trans (hb.mono (by omega))
    have hc0 := (hb.cell (p := ⟨w.heap.size, 0, none⟩) (by show w.heap.size < _; omega)).trans HB0.out
    go_wp2_with fail
    refine (HOk.out wr hbw).mono ?_
    rintro e w0 ⟨rfl, hbk⟩
    have hown := own_below hown hbk (Nat.le_refl _)
    have hb := hb.trans (hbk.mono (by omega))
    have hbs0 := hbk.size
    clear hbk hc0 hbw
    go_wp2_with fail
    refine (sCellAt k _).mono ?_
    rintro e w1 ⟨rfl, hb1⟩
    have hown1 := own_below hown hb1 (Nat.le_refl _)
    have hbb := hb.trans (hb1.mono (by omega))
    have hb1s := hb1.size
    have hc0 := (hbb.cell (p := ⟨w.heap.size, 0, none⟩) (by show w.heap.size < _; omega)).trans HB0.out
    have hz : w.heap.size < w1.heap.size := by omega
    have hbw := HBw.out.trans (hbb.mono (by omega))
    have HOwn := Lib.hid hown1
    have HBB := Lib.hid hbb
    have HS := Lib.hid hb1s
    have HS0 := Lib.hid hbs0
    have HBs := Lib.hid hbs
    obtain ⟨hax, hay⟩ := at_nat hlt
    rw [hax, hay]
    have HC := Lib.hid (HHs.out _ (hbw.alloc hbw.size (.cells #[.int .i64 ((k % 8 : Nat) : Int), .int .i64 ((k / 8 : Nat) : Int)] 38)) (k % 8) (k / 8) (by omega) (by omega))
    have hn' : bitB (rowD xs (k / 8)) (k % 8) = true ∧ cellsTo xs (k + 1) = cellsTo xs k ++ [(((k % 8 : Nat) : Int), ((k / 8 : Nat) : Int))] ∨ bitB (rowD xs (k / 8)) (k % 8) = false ∧ cellsTo xs (k + 1) = cellsTo xs k := by
     cases hb : bitB (rowD xs (k / 8)) (k % 8) with
     | true => exact .inl ⟨rfl, cellsTo_yes hb⟩
     | false => exact .inr ⟨rfl, cellsTo_no hb⟩
    have HN' := Lib.hid hn'
    clear hown hb hb1 hown1 hbb hb1s hbs hbs0 hax hay hn' hbw
    generalize bitB (rowD xs (k / 8)) (k % 8) = bb at HC HN'
    generalize ((k % 8 : Nat) : Int) = u at HC HN' ⊢
    generalize ((k / 8 : Nat) : Int) = v' at HC HN' ⊢
    go_wp2_with fail
    refine HC.out.mono ?_
    rintro e w2 ⟨rfl, hb2⟩
    clear HC
    have hcc : w2.cell? ⟨w1.heap.size, 0, none⟩ = some (.int .i64 u) ∧ w2.cell? ⟨w1.heap.size, 1, none⟩ = some (.int .i64 v') := by
     have hbl := heap_alloc_new w1 (.cells #[.int .i64 u, .int .i64 v'] 38)
     exact ⟨(hb2.cell (by simp)).trans ((cell_of_row _ _ 0 _ _ _ hbl).trans rfl), (hb2.cell (by simp)).trans ((cell_of_row _ _ 1 _ _ _ hbl).trans rfl)⟩
    obtain ⟨hc2, hc3⟩ := hcc
    have hD : Below (w.heap.size + 1) W0 w2 := (HBB.out.alloc (by have := HS.out; have := HS0.out; have := HBs.out; omega) _).trans (hb2.mono (by simp; have := HS.out; have := HS0.out; have := HBs.out; omega))
    have hE : Below w1.heap.size w1 w2 := (below_alloc1 w1 _).trans (hb2.mono (by simp))
    have HOwn2 := Lib.hid (own_below HOwn.out hE (Nat.le_refl _))
    have hzz : w1.heap.size < w2.heap.size := by have := hb2.size; simp at this; omega
    have HD := Lib.hid hD
    clear hD hE hb2 hc0
    rcases HN'.out with ⟨rfl, hN⟩ | ⟨rfl, hN⟩
    ·have HN := Lib.hid hN
     clear hN HN'
     have HL := Lib.hid (cellsTo_length xs k)
     go_wp2_with (first
      | (at_builtin; refine wpList_append_own _ rfl _ _ 34 rfl (w.heap.size + 1) 38 i0 (.agg #[.int .i64 0, .int .i64 0]) 2 16 Try.underlying34 hi hz0 hz1 hz2 rfl (by decide) _ (cellsTo xs k).length (rowC (cellsTo xs k)) rfl (HOwn2.out.alloc _) ⟨w2.heap.size, 0, none⟩ 1 1 [.int .i64 u, .int .i64 v'] rfl rfl (World.news_of_block (cs := #[.int .i64 u, .int .i64 v']) (t := 38) (fr := (0, 0)) (heap_alloc_new w2 _)) (by simp [Value.oneCell']) (by have := HL.out; unfold maxLen; omega) (by have := HL.out; omega) (by have := HS.out; have := HS0.out; have := HBs.out; simp; omega) ?_; intro v2 w3 hown3 hgrow _))
     have hb3 : Below (w.heap.size + 1) W0 w3 := (HD.out.alloc (by have := HS.out; have := HS0.out; have := HBs.out; omega) _).grown hgrow (by simp; have := HS.out; have := HS0.out; have := HBs.out; omega) (fun g hg => (HOwn2.out.lt g hg).1)
     have R := Lib.hid (show w3.ownsRow (w.heap.size + 1) 38 2 v2 (cellsTo xs (k + 1)).length (rowC (cellsTo xs (k + 1))) by
      rw [HN.out, rowC_snoc, List.length_append]; exact hown3)
     clear hown3 hgrow
     go_wp2
     go_roundw
     case rel => exact ⟨k + 1, by omega, by go_num, R.out, hb3⟩
     case measure => (simp [intOf] <;> omega)
    ·have HN := Lib.hid hN
     clear hN HN'
     go_wp2
     go_roundw
     case rel => exact ⟨k + 1, by omega, by go_num, by rw [HN.out]; exact HOwn2.out, HD.out⟩
     case measure => (simp [intOf] <;> omega)
   ·obtain rfl : k = 64 := by omega
    obtain ⟨A, cap, rfl⟩ := own_shape hown
    have HOwn := Lib.hid hown
    have HEnd := Lib.hid (HBw.out.trans (hb.mono (B' := w.heap.size) (by omega)))
    clear hown hb
    go_wp2
    go_ret
    rw [HE.out]
    exact ⟨A, cap, rfl, own_base HOwn.out (by omega), HEnd.out⟩
 ·rw [okRB_not ho] at HOk
  have HE := Lib.hid (cellsR_not ho)
  clear ho HHs
  go_loopw [3, 4] (fun v i wr => i = .int .i64 0 ∧ wr.ownsRow (w.heap.size + 1) 38 2 v 0 [] ∧ Below (w.heap.size + 1) W0 wr) (fun _ i _ => 64 - (intOf i).toNat)
  case atStart => exact ⟨rfl, by rw [hW] at HO; exact HO.out, by rw [hW] at HW1 ⊢; exact HW1.out⟩
  case round =>
   clear HW1 HO
   obtain ⟨rfl, hown, hb⟩ := hrel
   have hbs := hb.size
   rw [hW0] at hbs
   have hbw := HBw.out.trans (hb.mono (by omega))
   have hc0 := (hb.cell (p := ⟨w.heap.size, 0, none⟩) (by show w.heap.size < _; omega)).trans HB0.out
   go_wp2_with fail
   refine (HOk.out wr hbw).mono ?_
   rintro e w0 ⟨rfl, hbk⟩
   have hown := own_below hown hbk (Nat.le_refl _)
   have hb := hbw.trans (hbk.mono (B' := w.heap.size) (by omega))
   obtain ⟨A, cap, rfl⟩ := own_shape hown
   have HOwn := Lib.hid hown
   clear hown hbk hc0 hbw
   go_wp2
   go_ret
   rw [HE.out]
   exact ⟨A, cap, rfl, own_base HOwn.out (by omega), hb⟩

set_option maxRecDepth 100000 in
set_option maxHeartbeats 2000000 in
theorem iCellsOf (w : World) (A : Option Addr) (n cap B : Nat) (xs : List Int) (hx : xs.length = n) (hn : (n : Int) ≤ 9223372036854775807) (h : RowB w B A xs) (hB : B ≤ w.heap.size) :
  Calls Try.prog 80 #[.agg #[.slice A n cap]] w (NbPost (cellsR xs) w) := by
 obtain ⟨i0, hi, hz0, hz1, hz2⟩ := info_parts cellInfo
 have T0 := Lib.hid (fun T => rb_start (T := T) (.slice A n cap) w)
 have HOk := Lib.hid (fun W (hb : Below w.heap.size w W) => iRegionOk W A n cap B xs hx hn (h.below hb hB) (by have := hb.size; omega))
 have HRow := Lib.hid (fun W (hb : Below w.heap.size w W) => h.below hb hB)
 have HX := Lib.hid hx
 clear hx h
 go_enter Try.func80, Try.ntmps80
 go_wp2_with fail
 have T1 := T0.out 26
 refine (HOk.out _ T1.1).mono ?_
 rintro e w1 ⟨rfl, hb1⟩
 have T2 := T1.on hb1
 clear T0 T1 hb1 HOk
 have hbw := T2.1
 by_cases ho : okR xs
 ·rw [okRB_of ho]
  have HE := Lib.hid (show cellsR xs = cellsTo xs (n * 8) by rw [cellsR_ok' ho, HX.out])
  obtain ⟨_, hsz, c0⟩ := id T2
  have hn8 : n ≤ 8 := by have := ho.1; have := HX.out; omega
  have HNil := Lib.hid (World.ownsRow_nil w1 w.heap.size 38 2)
  have HOR := Lib.hid (fun y => rowD_ok ho y)
  have HXR := Lib.hid (fun y (hy : y < xs.length) => rowD_at (List.getElem?_eq_getElem (l := xs) hy))
  clear T2 ho
  go_wp2_with fail
  go_loopw [3, 13] (fun v i wr => ∃ y : Nat, y ≤ n ∧ i = .int .i64 y ∧ wr.ownsRow w.heap.size 38 2 v (cellsTo xs (y * 8)).length (rowC (cellsTo xs (y * 8))) ∧ Below w.heap.size w wr) (fun _ i _ => n - (intOf i).toNat)
  case atStart => exact ⟨0, Nat.zero_le _, rfl, by simpa [cellsTo, rowC] using HNil.out, hbw⟩
  case round =>
   clear HNil hbw c0 hsz
   obtain ⟨y, hy, rfl, hown, hb⟩ := hrel
   have hbs := hb.size
   by_cases hlt : y < n
   ·have hyx : y < xs.length := by have := HX.out; omega
    obtain ⟨b, off, hA, hc⟩ := HRow.out wr hb
    obtain ⟨rfl, hbB⟩ := hA (by omega)
    have hc1 := hc y xs[y] (List.getElem?_eq_getElem hyx)
    have hr := HOR.out y
    have HRE := Lib.hid (HXR.out y hyx)
    rw [HRE.out] at hr
    generalize xs[y] = r at hc1 hr HRE
    have HKd := Lib.hid (fun x hx8 W => iKindAt r x hr.1 hr.2 hx8 W)
    have HOwn0 := Lib.hid hown
    clear hA hc hr hown
    go_wp2_with fail
    go_loopw [3, 18] (fun v i wr => ∃ x : Nat, x ≤ 8 ∧ i = .int .i64 x ∧ wr.ownsRow w.heap.size 38 2 v (cellsTo xs (y * 8 + x)).length (rowC (cellsTo xs (y * 8 + x))) ∧ Below w.heap.size w wr) (fun _ i _ => 8 - (intOf i).toNat)
    case atStart => exact ⟨0, Nat.zero_le _, rfl, HOwn0.out, hb⟩
    case round =>
     clear HOwn0 hb hc1
     obtain ⟨x, hx8, rfl, hown, hb⟩ := hrel
     have hbs := hb.size
     by_cases hlx : x < 8
     ·have HC := Lib.hid (fun W => HKd.out x hlx W)
      have hcs : kindN r x = 1 ∧ Hid (cellsTo xs (y * 8 + (x + 1)) = cellsTo xs (y * 8 + x) ++ [((x : Int), (y : Int))]) ∨ kindN r x = 0 ∧ Hid (cellsTo xs (y * 8 + (x + 1)) = cellsTo xs (y * 8 + x)) := by
       cases hb : bitB r x with
       | true => exact .inl ⟨kindN_yes hb, Lib.hid (cellsTo_yes' hlx (by rw [HRE.out]; exact hb))⟩
       | false => exact .inr ⟨kindN_no hb, Lib.hid (cellsTo_no' hlx (by rw [HRE.out]; exact hb))⟩
      generalize kindN r x = kd at HC hcs
      have HOwn2 := Lib.hid hown
      have HL := Lib.hid (cellsTo_length xs (y * 8 + x))
      clear hown
      go_wp2_with fail
      refine (HC.out _).mono ?_
      rintro e w2 ⟨rfl, rfl⟩
      clear HC
      rcases hcs with ⟨rfl, HN⟩ | ⟨rfl, HN⟩
      ·go_wp2_with (first
        | (at_builtin; refine wpList_append_own _ rfl _ _ 34 rfl w.heap.size 38 i0 (.agg #[.int .i64 0, .int .i64 0]) 2 16 Try.underlying34 hi hz0 hz1 hz2 rfl (by decide) _ (cellsTo xs (y * 8 + x)).length (rowC (cellsTo xs (y * 8 + x))) rfl (HOwn2.out.alloc _) ⟨w2.heap.size, 0, none⟩ 1 1 [.int .i64 (x : Int), .int .i64 (y : Int)] rfl rfl (World.news_of_block (cs := #[.int .i64 (x : Int), .int .i64 (y : Int)]) (t := 38) (fr := (0, 0)) (heap_alloc_new w2 _)) (by simp [Value.oneCell']) (by have := HL.out; unfold maxLen; omega) (by have := HL.out; omega) (by simp; omega) ?_; intro v2 w3 hown3 hgrow _))
       have hb3 : Below w.heap.size w w3 := (hb.alloc hbs _).grown hgrow (by simp; omega) (fun g hg => (HOwn2.out.lt g hg).1)
       have R := Lib.hid (show w3.ownsRow w.heap.size 38 2 v2 (cellsTo xs (y * 8 + (x + 1))).length (rowC (cellsTo xs (y * 8 + (x + 1)))) by
        rw [HN.out, rowC_snoc, List.length_append]; exact hown3)
       clear hown3 hgrow hb
       go_wp2
       go_roundw
       case rel => exact ⟨x + 1, by omega, by go_num, R.out, hb3⟩
       case measure => (simp [intOf] <;> omega)
      ·go_wp2
       go_roundw
       case rel => exact ⟨x + 1, by omega, by go_num, by rw [HN.out]; exact HOwn2.out, hb⟩
       case measure => (simp [intOf] <;> omega)
     ·obtain rfl : x = 8 := by omega
      have HOwn2 := Lib.hid (show _ by rw [show y * 8 + 8 = (y + 1) * 8 by omega] at hown; exact hown)
      clear hown
      go_wp2
      go_roundw
      case rel => exact ⟨y + 1, by omega, by go_num, HOwn2.out, hb⟩
      case measure => (simp [intOf] <;> omega)
   ·obtain rfl : y = n := by omega
    obtain ⟨A', cap', rfl⟩ := own_shape hown
    have HOwn := Lib.hid hown
    clear hown
    go_wp2
    go_ret
    rw [HE.out]
    exact ⟨A', cap', rfl, HOwn.out, hb⟩
 ·rw [okRB_not ho]
  have HE := Lib.hid (cellsR_not ho)
  clear ho T2
  go_wp2
  go_ret
  rw [HE.out]
  exact ⟨none, 0, rfl, ⟨rfl, .inl ⟨rfl, rfl⟩⟩, hbw⟩
end Go.Proofs.Ytjfagpmklifjlaa.Reg

namespace Go.Proofs.Ytjfagpmklifjlaa.Reg
set_option linter.unusedVariables false
open Go.RowKit Go.Proofs.Ytjfagpmklifjlaa.Pure Go.Proofs.Ytjfagpmklifjlaa.Cell Go.Joins

def countR (xs : List Int) : Int := ((cellsR xs).length : Int)

set_option maxHeartbeats 400000 in
theorem iCountCells (w : World) (A : Option Addr) (n cap B : Nat) (xs : List Int) (hx : xs.length = n) (hn : (n : Int) ≤ 9223372036854775807) (h : RowB w B A xs) (hB : B ≤ w.heap.size) :
  Calls Try.prog 77 #[.agg #[.slice A n cap]] w (Num (countR xs) w) := by
 have HC := Lib.hid (fun W (hb : Below w.heap.size w W) => iCellsOf W A n cap B xs hx hn (h.below hb hB) (by have := hb.size; omega))
 have HB := Lib.hid (fun (o1 : Obj) => below_alloc1 w o1)
 have HE := Lib.hid (show countR xs = ((cellsR xs).length : Int) from rfl)
 clear hx hn h
 generalize cellsR xs = L at HC HE
 go_enter Try.func77, Try.ntmps77
 go_wp2_with fail
 refine (HC.out _ (HB.out _)).mono ?_
 rintro e w1 ⟨A1, cap1, rfl, _, hb1⟩
 have hb := (HB.out (.cells #[.slice A n cap] 26)).trans (hb1.mono (by simp))
 clear hb1
 go_wp2
 go_ret
 exact mkNum HE.out.symm hb

set_option maxHeartbeats 400000 in
theorem sCountCells (w : World) (A : Option Addr) (n cap B : Nat) (xs : List Int) (hx : xs.length = n) (hn : (n : Int) ≤ 9223372036854775807) (h : RowB w B A xs) (hB : B ≤ w.heap.size) :
  Calls Try.prog 23 #[.agg #[.slice A n cap]] w (Num (countR xs) w) := by
 have HC := Lib.hid (fun W (hb : Below w.heap.size w W) => sCellsOf W A n cap B xs hx hn (h.below hb hB) (by have := hb.size; omega))
 have HB := Lib.hid (fun (o1 : Obj) => below_alloc1 w o1)
 have HE := Lib.hid (show countR xs = ((cellsR xs).length : Int) from rfl)
 clear hx hn h
 generalize cellsR xs = L at HC HE
 go_enter Try.func23, Try.ntmps23
 go_wp2_with fail
 refine (HC.out _ (HB.out _)).mono ?_
 rintro e w1 ⟨A1, cap1, rfl, _, hb1⟩
 have hb := (HB.out (.cells #[.slice A n cap] 26)).trans (hb1.mono (by simp))
 clear hb1
 go_wp2
 go_ret
 exact mkNum HE.out.symm hb
end Go.Proofs.Ytjfagpmklifjlaa.Reg

namespace Go.Proofs.Ytjfagpmklifjlaa.Prof
set_option linter.unusedVariables false
set_option linter.unusedSimpArgs false
open Go.RowKit Go.Proofs.Ytjfagpmklifjlaa.Base Go.Proofs.Ytjfagpmklifjlaa.Pure Go.Proofs.Ytjfagpmklifjlaa.Cels Go.Proofs.Ytjfagpmklifjlaa.Reg Go.Proofs.Ytjfagpmklifjlaa.Cnt Go.Joins
open Go.Maps (Keyed)

theorem plcN_end (xs : List Int) : plcN xs (idxs xs).length = 64 := by unfold plcN; simp [List.getD]
theorem idxs_len (xs : List Int) : (idxs xs).length ≤ 64 := by
 unfold idxs; exact Nat.le_trans (List.length_filter_le _ _) (by simp)
theorem plcN_le (xs : List Int) (j : Nat) : plcN xs j ≤ 64 := by
 by_cases h : j < (idxs xs).length
 ·exact Nat.le_of_lt ((idxs_lists xs).mem j h).1
 ·unfold plcN; rw [List.getD, List.getElem?_eq_none (by omega)]; exact Nat.le_refl _
theorem plcN_gap {xs : List Int} {j i : Nat} (hj : j ≤ (idxs xs).length) (h0 : ∀ j', j' < j → plcN xs j' < i) (h : i < plcN xs j) : gR xs i = false := by
 cases hg : gR xs i with
 | false => rfl
 | true =>
  have h64 := plcN_le xs j
  obtain ⟨j0, hl, e⟩ := (idxs_lists xs).all i (by omega) hg
  by_cases q : j0 < j
  ·have := h0 j0 q; omega
  ·by_cases r : j = j0
   ·rw [r] at h; omega
   ·have := (idxs_lists xs).asc j j0 (by omega) hl; omega
theorem plcN_step {xs : List Int} {j : Nat} (hj : j < (idxs xs).length) : plcN xs j + 1 ≤ plcN xs (j + 1) := by
 by_cases h : j + 1 < (idxs xs).length
 ·exact (idxs_lists xs).asc j (j + 1) (by omega) h
 ·have := plcN_end xs
  rw [show j + 1 = (idxs xs).length by omega, this]
  exact ((idxs_lists xs).mem j hj).1
def CI (xs : List Int) (fr : Bool) (j : Nat) (Db : DataW Unit) : Prop := KD Db (gR xs) (plcN xs j) j ∧ ∀ N, D (sumV (gR xs) fr N (64 - plcN xs j) (plcN xs j) (vw Db)) (V (gR xs) fr N 64 0 0 0 : Int)
theorem CI.start (xs : List Int) (fr : Bool) : CI xs fr 0 ((DataW.map []).put (kI 0) (.lit (.int .i64 1))) := by
 refine ⟨KD.none.put Maps.isMap_empty (by omega) Vd_zero _, fun N => ?_⟩
 rw [sumV_congr (fun i hi => vw_put Maps.isMap_empty (t := 0) (by omega) 1 (i := i) (by omega))]
 rw [sumV_start (upd_at _ _ _) (fun i _ hne => by rw [upd_ne hne]; exact vw_none i)]
 have h := V_skip (g := gR xs) (fr := fr) (e := N) (s := 0) (d := 0) (plcN xs 0) (64 - plcN xs 0) 0 (fun i _ hi => plcN_gap (j := 0) (Nat.zero_le _) (fun j' hj' => by omega) (by omega))
 have h64 := plcN_le xs 0
 rw [show 64 - plcN xs 0 + plcN xs 0 = 64 by omega, Nat.zero_add] at h
 rw [h]; exact D.refl _
theorem CI.step {xs : List Int} {fr : Bool} {j : Nat} {Db Da : DataW Unit} (hj : j < (idxs xs).length) (h : CI xs fr j Db) (hg : GoR (gR xs) fr (plcN xs j) j Db Da) : CI xs fr (j + 1) Da := by
 have hk := ((idxs_lists xs).mem j hj).1
 have h1 := plcN_step hj
 have h64 := plcN_le xs (j + 1)
 have hgap : ∀ i, plcN xs j + 1 ≤ i → i < plcN xs j + 1 + (plcN xs (j + 1) - (plcN xs j + 1)) → gR xs i = false := fun i p1 p2 =>
  plcN_gap (j := j + 1) (by omega) (fun j' hj' => by
   by_cases q : j' = j
   ·rw [q]; omega
   ·have := (idxs_lists xs).asc j' j (by omega) hj; omega) (by omega)
 refine ⟨fun kl hk => ?_, fun N => ?_⟩
 ·obtain ⟨i, hi, e, hv⟩ := hg.1 kl hk
  have := Vd_skip _ _ hv hgap
  rw [show plcN xs j + 1 + (plcN xs (j + 1) - (plcN xs j + 1)) = plcN xs (j + 1) by omega] at this
  exact ⟨i, hi, e, this⟩
 ·have h2 := hg.2 N
  have h3 := h.2 N
  rw [show 63 - plcN xs j + 1 = 64 - plcN xs j by omega] at h2
  have h4 := sumV_skip (g := gR xs) (fr := fr) (e := N) (n := 64 - plcN xs (j + 1)) (a := vw Da) hgap
  rw [show 64 - plcN xs (j + 1) + (plcN xs (j + 1) - (plcN xs j + 1)) = 63 - plcN xs j by omega, show plcN xs j + 1 + (plcN xs (j + 1) - (plcN xs j + 1)) = plcN xs (j + 1) by omega] at h4
  rw [h4] at h2
  exact h2.symm.trans h3
def CL (xs : List Int) (fr : Bool) (Db : DataW Unit) : Prop := KD Db (gR xs) 64 64 ∧ ∀ N, N < 65 → D (vw Db (256 * N)) (V (gR xs) fr N 64 0 0 0 : Int)
theorem CI.last {xs : List Int} {fr : Bool} {Db : DataW Unit} (h : CI xs fr (idxs xs).length Db) : CL xs fr Db := by
 obtain ⟨h1, h2⟩ := h
 rw [plcN_end] at h1 h2
 have hl := idxs_len xs
 refine ⟨fun kl hk => ?_, fun N hN => ?_⟩
 ·obtain ⟨i, hi, e, hv⟩ := h1 kl hk
  exact ⟨i, by omega, e, hv⟩
 ·have := h2 N
  rw [show 64 - 64 = 0 from rfl, sumV_last hN] at this
  exact this
theorem wpList_insert {ops : Array Oper} {rest : List Oper} {o : Oper} {a : Act} {Q : Exit → Act → World → Prop} (w : World)
  (hg : o.guard = none) (m x v : Operand) (hop : o.op = Op.insert 93 m x v) (b n : Nat) (Db : DataW Unit)
  (hm : a.eval m = .map (some b)) (hown : w.ownsMap Try.prog 96 RE b n Db) (hn : n < maxLen) (key val : Value) (kl : Lit) (hx : a.eval x = key) (hv : a.eval v = val) (hkey : keyOf Try.prog 96 key = some kl)
  (d : DataW Unit) (ps : List MemPlace) (hval : RE val = some (d, ps))
  (hK : ∀ w', w'.ownsMap Try.prog 96 RE b (n + 1) (Db.put kl d) → w.grownBy w' (some b) → wpList Try.prog ops Q rest (a.put o.dst undef) w') :
  wpList Try.prog ops Q (o :: rest) a w := by
 refine wpList_plain hg fun K' hK' => ?_
 obtain ⟨w', hrun, r1, r2⟩ := hown.update law ut hn hkey hval
 unfold Oper.wp
 simp [execOp, hop, hm, hx, hv, hrun, Result.andThen]
 exact hK' _ _ (hK w' r1 r2)
theorem run_makeMap0 {w : World} : (Instr.makeMap 93 none).run Try.prog w = .ok (.map (some w.heap.size)) (w.alloc (.map #[] 0)) := rfl

def PK (w : World) (v : Value) (lo hi : Nat) (u : Value) (m : Nat) (L : List (Int × Int)) (W : World) : Prop := RB w v W ∧ RowIn W lo hi 38 2 u m (rowC L)
theorem PK.on {w W W' : World} {v u : Value} {lo hi m : Nat} {L : List (Int × Int)} (h : PK w v lo hi u m L W) (hb : Below W.heap.size W W') : PK w v lo hi u m L W' := ⟨h.1.on hb, h.2.on hb⟩
theorem own_at {w : World} {base e size n g c : Nat} {xs : List Value} (h : w.ownsRow base e size (.slice (some ⟨g, 0, none⟩) n c) n xs) {j : Nat} {u : Value} (hj : xs[j]? = some u) : w.cell? ⟨g, j, none⟩ = some u := by
 have := h.cells (g := g) rfl j u hj
 rwa [add_plain] at this
theorem cells_idx {xs : List Int} (ho : okR xs) : (cellsR xs).length = (idxs xs).length ∧ ∀ j, j < (idxs xs).length → (cellsR xs)[j]? = some (((plcN xs j % 8 : Nat) : Int), ((plcN xs j / 8 : Nat) : Int)) := by
 rw [cellsR_ok ho, idxs_cells]
 refine ⟨by simp, fun j hj => ?_⟩
 rw [List.getElem?_map, List.getElem?_eq_getElem hj, plcN_at hj]; rfl

set_option maxRecDepth 100000 in
set_option maxHeartbeats 4000000 in
theorem iCountLists (w : World) (A : Option Addr) (n cap B : Nat) (xs : List Int) (hx : xs.length = n) (hn : (n : Int) ≤ 9223372036854775807) (ho : okR xs) (h : RowB w B A xs) (hB : B ≤ w.heap.size) (fr : Bool) :
  Calls Try.prog 76 #[.agg #[.slice A n cap], .bool fr] w (fun e w' => ∃ m' Da, e = .returned (.map (some m')) ∧ Own w' m' Da ∧ CL xs fr Da ∧ Below w.heap.size w w') := by
 have hmm := @run_makeMap0
 have T0 := Lib.hid (fun (T : TypeId) => rb_start (T := T) (.slice A n cap) w)
 have HC := Lib.hid (fun W (hb : RB w (.slice A n cap) W) => iCellsOf W A n cap B xs hx hn (h.below hb.1 hB) (by have := hb.2.1; omega))
 have HGo := Lib.hid (fun W (hb : Below w.heap.size w W) k q x y hk hxk hyk hgk hq m Db hm hkd => iGoPast W A n cap B xs hx hn ho (h.below hb hB) (by have := hb.size; omega) k q x y hk hxk hyk hgk hq fr m Db hm hkd)
 have HI0 := Lib.hid (CI.start xs fr)
 have HSt := Lib.hid (fun j Db Da (hj : j < (idxs xs).length) (h : CI xs fr j Db) (hg : GoR (gR xs) fr (plcN xs j) j Db Da) => CI.step hj h hg)
 have HLa := Lib.hid (fun Db (h : CI xs fr (idxs xs).length Db) => CI.last h)
 have HM := Lib.hid (fun j (hj : j < (idxs xs).length) => (idxs_lists xs).mem j hj)
 have HL := Lib.hid (cells_idx ho)
 have hlen := idxs_len xs
 clear hx hn ho h hB
 go_enter Try.func76, Try.ntmps76
 go_wp2_with (first
  | (refine wpList_insert _ rfl _ _ _ rfl (w.heap.size + 1) 0 (.map []) rfl (by have := World.ownsMap_made (w.alloc (.cells #[.slice A n cap] 26)) Try.prog 96 RE; rwa [show (w.alloc (.cells #[.slice A n cap] 26)).heap.size = w.heap.size + 1 by simp] at this) (by unfold maxLen; omega) _ _ (k2 0 0) rfl rfl (key2 (by decide) (by decide)) _ [] (plainElem_int (H := Unit) ui (a := 1) (by decide)) ?_; intro w1 hown1 hg1; (have hb1 : Below (w.heap.size + 1) (w.alloc (.cells #[.slice A n cap] 26)) w1 := ((Below.refl _ _).alloc (by simp) _).grown hg1 (by simp) (fun j e => by cases e; exact Nat.le_refl _)); (have T1 := (T0.out 26).onB hb1 (Nat.le_refl _)); (have c0 := T1.2.2))
  | fail)
 have O1 := Lib.hid (show Own w1 (w.heap.size + 1) ((DataW.map []).put (kI 0) (.lit (.int .i64 1))) from World.ownsMap.mono hown1 (by omega))
 clear T0 hown1 hg1 hb1 hmm
 refine (HC.out _ T1).mono ?_
 rintro e w2 ⟨A1, c1, rfl, hown, hb2⟩
 have P2 := Lib.hid (show PK w (.slice A n cap) w1.heap.size w2.heap.size (.slice A1 (cellsR xs).length c1) (cellsR xs).length (cellsR xs) w2 from ⟨T1.on hb2, rowIn_new hown⟩)
 have O2 := Lib.hid (O1.out.on hb2)
 clear HC T1 c0 hown hb2 O1
 generalize w1.heap.size = lo at P2
 generalize w2.heap.size = hi at P2
 generalize w.heap.size + 1 = m0 at O2 ⊢
 rw [HL.out.1] at P2 ⊢
 generalize (DataW.map []).put (kI 0) (.lit (.int .i64 1)) = D0 at O2 HI0
 obtain ⟨M, hM⟩ : ∃ M, M = (idxs xs).length := ⟨_, rfl⟩
 rw [← hM] at P2 hlen HSt HLa HM HL ⊢
 clear hM
 have HLe := Lib.hid HL.out.2
 clear HL
 generalize cellsR xs = L at P2 HLe
 go_wp2_with fail
 go_loopw [5, 14] (fun cv iv wr => ∃ (j m : Nat) (Db : DataW Unit), j ≤ M ∧ iv = .int .i64 (j : Int) ∧ cv = .map (some m) ∧ PK w (.slice A n cap) lo hi (.slice A1 M c1) M L wr ∧ Own wr m Db ∧ CI xs fr j Db) (fun _ iv _ => M - (intOf iv).toNat)
 case atStart => exact ⟨0, m0, D0, Nat.zero_le _, rfl, rfl, P2.out, O2.out, HI0.out⟩
 case round =>
  clear P2 O2 HI0
  obtain ⟨j, m, Db, hj, rfl, rfl, P1, O1, I1⟩ := hrel
  by_cases hlt : j < M
  ·obtain ⟨hk64, hgk⟩ := HM.out j hlt
   have hLj := HLe.out j hlt
   obtain ⟨nb, c', hv1, _, _⟩ := P1.2.1.form (by omega)
   injection hv1 with hA2 hm2 hc2
   subst hA2
   subst hc2
   obtain ⟨q1, q2⟩ := rowC_at L j _ hLj
   have c0 := own_at P1.2.1 q1
   have c1' := own_at P1.2.1 q2
   clear q1 q2 hLj
   obtain ⟨k, hk⟩ : ∃ k, k = plcN xs j := ⟨_, rfl⟩
   have HS := Lib.hid (fun Da (hg : GoR (gR xs) fr k j Db Da) => HSt.out j Db Da hlt I1 (by rw [← hk]; exact hg))
   have hkd : KD Db (gR xs) k j := by rw [hk]; exact I1.1
   rw [← hk] at hk64 hgk c0 c1'
   clear hk
   obtain ⟨x, hx⟩ : ∃ x, x = k % 8 := ⟨_, rfl⟩
   obtain ⟨y, hy⟩ : ∃ y, y = k / 8 := ⟨_, rfl⟩
   rw [← hx] at c0
   rw [← hy] at c1'
   have HG := Lib.hid (fun W (hb : Below w.heap.size w W) (hm : Own W m Db) => HGo.out W hb k j x y hk64 hx hy hgk (by omega) m Db hm hkd)
   have HP := Lib.hid P1
   have HO := Lib.hid O1
   have HI := Lib.hid I1
   clear hx hy hkd hgk hk64 P1 O1 I1
   go_upto_region 5 with fail
   have hba := below_alloc1 wr (.cells #[.int .i64 (x : Int), .int .i64 (y : Int)] 38)
   have P3 := HP.out.on hba
   have O3 := HO.out.on hba
   have r0 := P3.1.2.2
   have hp0 := (cellAt (heap_alloc_new wr (.cells #[.int .i64 (x : Int), .int .i64 (y : Int)] 38)) 0).1
   have hp1 := (cellAt (heap_alloc_new wr (.cells #[.int .i64 (x : Int), .int .i64 (y : Int)] 38)) 1).1
   generalize wr.alloc (.cells #[.int .i64 (x : Int), .int .i64 (y : Int)] 38) = W3 at P3 O3 r0 hp0 hp1 ⊢
   have p0 := hp0.trans (show _ = some (Value.int .i64 (x : Int)) from rfl)
   have p1 := hp1.trans (show _ = some (Value.int .i64 (y : Int)) from rfl)
   clear hba HP HO hp0 hp1
   go_wp2_with fail
   refine (HG.out _ P3.1.1 O3).mono ?_
   rintro e w5 ⟨m', Da, rfl, O5, G5, _, hb5⟩
   have P5 := P3.on hb5
   have I5 := HS.out Da G5
   clear P3 O3 r0 p0 p1 G5 hb5
   go_wp2
   go_roundw
   case rel => exact ⟨j + 1, m', Da, by omega, by go_num, rfl, P5, O5, I5⟩
   case measure => (simp [intOf] <;> omega)
  ·obtain rfl : j = M := by omega
   have HP := Lib.hid P1
   have HO := Lib.hid O1
   have HI := Lib.hid (HLa.out Db I1)
   clear P1 O1 I1
   go_wp2
   go_ret
   exact ⟨m, Db, rfl, HO.out, HI.out, HP.out.1.1⟩
end Go.Proofs.Ytjfagpmklifjlaa.Prof
