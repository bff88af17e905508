/- DefD, FlmF, FlmC in one text. -/
import Derived.Test.YtmenmepdmojnfaaGreatDoorMx06
import Derived.Test.YtmenmepdmojnfaaGreatDoorMx01
import Derived.Test.YtmenmepdmojnfaaGreatDoorMx25
import Derived.Test.YtmenmepdmojnfaaGreatDoorMx09
import Derived.BigQuiet
import Derived.Deep.QuietTactic
import Derived.OwnWalk
import Derived.Laws.OwnMore
import Derived.Test.YtmenmepdmojnfaaGreatDoorMx21

namespace Go.Proofs.YtmenmepdmojnfaaGreatDoor.Def
set_option linter.unusedVariables false
set_option linter.unusedSimpArgs false
open Go.RowKit Go.Joins

theorem getD_at {L : List (Int × Int)} {k : Nat} (hk : k < L.length) : L.getD k (0, 0) = L[k] := by simp [List.getD, hk]
end Go.Proofs.YtmenmepdmojnfaaGreatDoor.Def

namespace Go.Proofs.YtmenmepdmojnfaaGreatDoor.Flp
set_option linter.unusedVariables false
set_option linter.unusedSimpArgs false
set_option maxRecDepth 100000
open Go.RowKit Go.Proofs.YtmenmepdmojnfaaGreatDoor.Dms Go.Proofs.YtmenmepdmojnfaaGreatDoor.Til Go.Joins
open Go.Proofs.YtmenmepdmojnfaaGreatDoor.Reg (own_below own_base)

theorem flip_len (L : List Dm) (x y : Int) : (flipL L x y).length ≤ L.length := by
 by_cases hk : kindN L x y = 0
 ·rw [flip_no hk]; exact Nat.le_refl _
 ·rw [flip_yes hk]
  have h := oth_two (kind_is hk).2
  have := sortM_length (pr1 x y (!decide (kindN L x y = 2)) :: pr2 x y (!decide (kindN L x y = 2)) :: oth L x y (decide (kindN L x y = 2)))
  unfold turn
  simp only [List.length_cons] at this
  omega
end Go.Proofs.YtmenmepdmojnfaaGreatDoor.Flp

namespace Go.Proofs.YtmenmepdmojnfaaGreatDoor.Flp
set_option linter.unusedVariables false
set_option linter.unusedSimpArgs false
set_option maxRecDepth 100000
open Go.RowKit Go.Proofs.YtmenmepdmojnfaaGreatDoor.Base Go.Proofs.YtmenmepdmojnfaaGreatDoor.Cell Go.Proofs.YtmenmepdmojnfaaGreatDoor.Cels Go.Proofs.YtmenmepdmojnfaaGreatDoor.Dom Go.Proofs.YtmenmepdmojnfaaGreatDoor.Dms Go.Joins
open Go.Proofs.YtmenmepdmojnfaaGreatDoor.Reg (at_nat own_below own_base)

def flipsTo (L : List Dm) (k : Nat) : List (Int × Int) := ((List.range k).filter fun k => canB L ((k % 8 : Nat) : Int) ((k / 8 : Nat) : Int)).map fun k => (((k % 8 : Nat) : Int), ((k / 8 : Nat) : Int))
theorem flipsTo_all (L : List Dm) : flipsTo L 64 = flipsR L := rfl
theorem flipsTo_length (L : List Dm) (k : Nat) : (flipsTo L k).length ≤ k := by
 unfold flipsTo; rw [List.length_map]; exact Nat.le_trans (List.length_filter_le _ _) (by rw [List.length_range]; exact Nat.le_refl _)
theorem flipsTo_yes {L : List Dm} {k : Nat} (h : canB L ((k % 8 : Nat) : Int) ((k / 8 : Nat) : Int) = true) : flipsTo L (k + 1) = flipsTo L k ++ [(((k % 8 : Nat) : Int), ((k / 8 : Nat) : Int))] := by
 unfold flipsTo; rw [List.range_succ, List.filter_append, List.map_append, List.filter_cons, if_pos h]; rfl
theorem flipsTo_no {L : List Dm} {k : Nat} (h : canB L ((k % 8 : Nat) : Int) ((k / 8 : Nat) : Int) = false) : flipsTo L (k + 1) = flipsTo L k := by
 unfold flipsTo; rw [List.range_succ, List.filter_append, List.map_append, List.filter_cons, if_neg (by rw [h]; simp), List.filter_nil, List.map_nil, List.append_nil]
set_option maxHeartbeats 2000000 in
theorem sFlipsOf (w : World) (A : Option Addr) (n cap B : Nat) (L : List Dm) (hL : L.length = n) (hn : (n : Int) ≤ 9223372036854775807) (h : RowM w B A L) (hB : B ≤ w.heap.size) :
  Calls Tryz.prog 59 #[.slice A n cap] w (NbPost (flipsR L) w) := by
 obtain ⟨i0, hi, hz0, hz1, hz2⟩ := info_parts cellInfo
 have HM := Lib.hid (World.ownsRow_made (e := 67) (size := 2) w #[] 0 (Nat.le_refl _) (by unfold maxLen; omega) rfl)
 have HKd := Lib.hid (fun W (hb : Below w.heap.size w W) x y => sKind W A n cap B L hL hn (h.below hb hB) (by have := hb.size; omega) x y)
 clear hL h hB
 go_enter Tryz.func59, Tryz.ntmps59
 go_wp2_with fail
 have HW1 := Lib.hid (below_alloc1 w (.cells #[] 67))
 go_loopw [3, 4] (fun v i wr => ∃ k : Nat, k ≤ 64 ∧ i = .int .i64 k ∧ wr.ownsRow w.heap.size 67 2 v (flipsTo L k).length (rowC (flipsTo L k)) ∧ Below w.heap.size w wr) (fun _ i _ => 64 - (intOf i).toNat)
 case atStart => exact ⟨0, Nat.zero_le _, rfl, by simpa [flipsTo, rowC] using HM.out, HW1.out⟩
 case round =>
  clear HW1 HM
  obtain ⟨k, hk, rfl, hown, hb⟩ := hrel
  have hbs := hb.size
  by_cases hlt : k < 64
  ·go_wp2_with fail
   refine (sCellAt k _).mono ?_
   rintro e w1 ⟨rfl, hb1⟩
   have hown1 := own_below hown hb1 (Nat.le_refl _)
   have hbb := hb.trans (hb1.mono hbs)
   have hb1s := hbb.size
   have HOwn := Lib.hid hown1
   have HBB := Lib.hid hbb
   obtain ⟨hax, hay⟩ := at_nat hlt
   rw [hax, hay]
   have HKx := Lib.hid (HKd.out _ (hbb.alloc hbb.size (.cells #[.int .i64 ((k % 8 : Nat) : Int), .int .i64 ((k / 8 : Nat) : Int)] 67)) ((k % 8 : Nat) : Int) ((k / 8 : Nat) : Int))
   have hn' : 0 < kindN L ((k % 8 : Nat) : Int) ((k / 8 : Nat) : Int) ∧ flipsTo L (k + 1) = flipsTo L k ++ [(((k % 8 : Nat) : Int), ((k / 8 : Nat) : Int))] ∨ kindN L ((k % 8 : Nat) : Int) ((k / 8 : Nat) : Int) = 0 ∧ flipsTo L (k + 1) = flipsTo L k := by
    rcases Nat.eq_zero_or_pos (kindN L ((k % 8 : Nat) : Int) ((k / 8 : Nat) : Int)) with h0 | h0
    ·exact .inr ⟨h0, flipsTo_no (by unfold canB; rw [h0]; rfl)⟩
    ·exact .inl ⟨h0, flipsTo_yes (decide_eq_true h0)⟩
   have HN' := Lib.hid hn'
   clear hown hb hb1 hown1 hbb hbs hax hay hn'
   generalize kindN L ((k % 8 : Nat) : Int) ((k / 8 : Nat) : Int) = kk at HKx HN'
   generalize ((k % 8 : Nat) : Int) = u at HKx HN' ⊢
   generalize ((k / 8 : Nat) : Int) = v' at HKx HN' ⊢
   go_wp2_with fail
   refine HKx.out.mono ?_
   rintro e w2 ⟨rfl, hb2⟩
   clear HKx
   have hcc : w2.cell? ⟨w1.heap.size, 0, none⟩ = some (.int .i64 u) ∧ w2.cell? ⟨w1.heap.size, 1, none⟩ = some (.int .i64 v') := by
    have hbl := heap_alloc_new w1 (.cells #[.int .i64 u, .int .i64 v'] 67)
    exact ⟨(hb2.cell (by simp)).trans ((cell_of_row _ _ 0 _ _ _ hbl).trans rfl), (hb2.cell (by simp)).trans ((cell_of_row _ _ 1 _ _ _ hbl).trans rfl)⟩
   obtain ⟨hc2, hc3⟩ := hcc
   have hD : Below w.heap.size w w2 := (HBB.out.alloc hb1s _).trans (hb2.mono (by simp; omega))
   have hE : Below w1.heap.size w1 w2 := (below_alloc1 w1 _).trans (hb2.mono (by simp))
   have HOwn2 := Lib.hid (own_below HOwn.out hE (Nat.le_refl _))
   have hzz : w1.heap.size < w2.heap.size := by have := hb2.size; simp at this; omega
   have HD := Lib.hid hD
   clear hD hE hb2
   rcases HN'.out with ⟨hkk, hN⟩ | ⟨rfl, hN⟩
   ·have HN := Lib.hid hN
    clear hN HN'
    have HL := Lib.hid (flipsTo_length L k)
    go_wp2_with (first
     | (at_builtin; refine wpList_append_own _ rfl _ _ 31 rfl w.heap.size 67 i0 (.agg #[.int .i64 0, .int .i64 0]) 2 16 Tryz.underlying31 hi hz0 hz1 hz2 rfl (by decide) _ (flipsTo L k).length (rowC (flipsTo L k)) rfl (HOwn2.out.alloc _) ⟨w2.heap.size, 0, none⟩ 1 1 [.int .i64 u, .int .i64 v'] rfl rfl (World.news_of_block (cs := #[.int .i64 u, .int .i64 v']) (t := 67) (fr := (0, 0)) (heap_alloc_new w2 _)) (by simp [Value.oneCell']) (by have := HL.out; unfold maxLen; omega) (by have := HL.out; omega) (by simp; omega) ?_; intro v2 w3 hown3 hgrow _))
    have hb3 : Below w.heap.size w w3 := (HD.out.alloc (by omega) _).grown hgrow (by simp; omega) (fun g hg => (HOwn2.out.lt g hg).1)
    have R := Lib.hid (show w3.ownsRow w.heap.size 67 2 v2 (flipsTo L (k + 1)).length (rowC (flipsTo L (k + 1))) by
     rw [HN.out, rowC_snoc, List.length_append]; exact hown3)
    clear hown3 hgrow
    go_wp2
    go_roundw
    case rel => exact ⟨k + 1, by omega, by go_num, R.out, hb3⟩
    case measure => (simp [intOf] <;> omega)
   ·have HN := Lib.hid hN
    clear hN HN'
    go_wp2
    go_roundw
    case rel => exact ⟨k + 1, by omega, by go_num, by rw [HN.out]; exact HOwn2.out, HD.out⟩
    case measure => (simp [intOf] <;> omega)
  ·obtain rfl : k = 64 := by omega
   obtain ⟨A, cap, rfl⟩ := own_shape hown
   rw [flipsTo_all] at hown ⊢
   have HOwn := Lib.hid hown
   clear hown
   go_wp2
   go_ret
   exact ⟨A, cap, rfl, HOwn.out, hb⟩
end Go.Proofs.YtmenmepdmojnfaaGreatDoor.Flp
