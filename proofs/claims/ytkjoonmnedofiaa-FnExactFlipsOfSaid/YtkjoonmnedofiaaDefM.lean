/- What the laws do with slices of cells: one is measured, one is copied. -/
import Derived.Test.YtkjoonmnedofiaaDefC
import Derived.Test.YtkjoonmnedofiaaRegF
import Derived.OwnWalk
import Derived.Laws.OwnMore
namespace Go.Proofs.Ytkjoonmnedofiaa.Def
set_option linter.unusedVariables false
set_option linter.unusedSimpArgs false
set_option maxRecDepth 100000
open Go.RowKit Go.Proofs.Ytkjoonmnedofiaa.Base Go.Proofs.Ytkjoonmnedofiaa.Pure Go.Proofs.Ytkjoonmnedofiaa.Cell Go.Proofs.Ytkjoonmnedofiaa.CellF Go.Proofs.Ytkjoonmnedofiaa.Cels Go.Joins
open Go.Proofs.Ytkjoonmnedofiaa.Reg hiding Yes RC rc_start

theorem made2 (n : Nat) : (madeCells #[.int .i64 0, .int .i64 0] (n * 2)).toList = rowC (List.replicate n (0, 0)) := by
  apply List.ext_getElem?
  intro j
  by_cases hj : j < n * 2
  · have h := rowC_at (List.replicate n (0, 0)) (j / 2) (0, 0) (by rw [List.getElem?_replicate]; simp; omega)
    obtain ⟨h0, h1⟩ := h
    simp only [madeCells, Array.toList_map, Array.toList_range, List.getElem?_map, List.getElem?_range hj, Option.map_some]
    have hc : j = j / 2 * 2 ∨ j = j / 2 * 2 + 1 := by omega
    rcases hc with e | e
    · rw [show j % (#[Value.int .i64 0, .int .i64 0] : Array Value).size = 0 by show j % 2 = 0; omega]
      rw [← e] at h0; rw [h0]; rfl
    · rw [show j % (#[Value.int .i64 0, .int .i64 0] : Array Value).size = 1 by show j % 2 = 1; omega]
      rw [← e] at h1; rw [h1]; rfl
  · rw [List.getElem?_eq_none (by simp [madeCells]; omega), List.getElem?_eq_none (by rw [rowC_length, List.length_replicate]; omega)]
theorem cl_step (L : List (Int × Int)) (n k : Nat) (hx : L.length = n) (hk : k < n) :
    ((rowC (L.take k ++ List.replicate (n - k) (0, 0))).set (k * 2) (.int .i64 L[k].1)).set (k * 2 + 1) (.int .i64 L[k].2) = rowC (L.take (k + 1) ++ List.replicate (n - (k + 1)) (0, 0)) := by
  rw [show n - k = (n - (k + 1)) + 1 by omega, List.replicate_succ, rowC_put (L.take k) (0, 0) L[k] _ k (by rw [List.length_take]; omega), List.take_succ_eq_append_getElem (by omega), List.append_assoc]
  rfl
set_option maxHeartbeats 400000 in
theorem szCellS (A : Option Addr) (n cap : Nat) (left : Int) (h0 : 0 ≤ left) (h1 : left ≤ 1048576) (hn : (n : Int) ≤ 9223372036854775807) (w : World) :
    Calls Try.prog 32 #[.slice A n cap, .int .i64 left] w fun e w' => e = .returned (.int .i64 (szR left n)) ∧ w' = w := by
  by_cases h : (n : Int) ≤ left
  · have HE := Lib.hid (show szR left n = left - n by unfold szR; rw [if_pos h])
    have h2 : ¬ left - (n : Int) < 0 := by omega
    go_enter Try.func32, Try.ntmps32
    go_wp2
    go_ret
    exact ⟨by rw [HE.out]; rfl, rfl⟩
  · have HE := Lib.hid (show szR left n = -1 by unfold szR; rw [if_neg h])
    have h2 : left - (n : Int) < 0 := by omega
    go_enter Try.func32, Try.ntmps32
    go_wp2
    go_ret
    exact ⟨by rw [HE.out]; rfl, rfl⟩
/-- cells in memory of the call's own. -/
def ClPost (L : List (Int × Int)) (n : Nat) (w : World) (e : Ending) (w' : World) : Prop :=
  ∃ A cap, e = .returned (.slice A n cap) ∧ n ≤ cap ∧ w'.ownsRow w.heap.size 35 2 (.slice A n cap) n (rowC L) ∧ Below w.heap.size w w'
set_option maxHeartbeats 1000000 in
theorem toCellS (w : World) (A : Option Addr) (n cap B : Nat) (L : List (Int × Int)) (hx : L.length = n) (hn : (n : Int) ≤ 1048576) (h : RowK w B A L) (hB : B ≤ w.heap.size) :
    Calls Try.prog 34 #[.slice A n cap] w (ClPost L n w) := by
  obtain ⟨i0, hi, hz0, hz1, hz2⟩ := info_parts cellInfo
  obtain ⟨b, off, hA, hc⟩ := h
  have HA := Lib.hid (fun (h0 : 0 < n) => hA (by omega))
  have HC := Lib.hid hc
  have HX := Lib.hid hx
  clear hA hc hx
  go_enter Try.func34, Try.ntmps34
  go_wp2_with (first
    | (at_make; refine wpList_make_full _ rfl _ _ 30 rfl w.heap.size 35 i0 (.agg #[.int .i64 0, .int .i64 0]) 2 Try.underlying30 hi hz0 hz1 .i64 .i64 (n : Int) (n : Int) n rfl rfl rfl rfl (by rw [hz2]; omega) (by unfold maxLen; omega) (by omega) ?_; intro w1 hown1 hg1))
  have hb1 : Below w.heap.size w w1 := (Below.refl _ _).grown hg1 (by omega) (by simp)
  have HO := Lib.hid (show w1.ownsRow w.heap.size 35 2 (.slice (some ⟨w.heap.size, 0, none⟩) n n) n (rowC (L.take 0 ++ List.replicate (n - 0) (0, 0))) by
    rw [show (Value.agg #[.int .i64 0, .int .i64 0]).cells = #[.int .i64 0, .int .i64 0] from rfl, made2] at hown1
    simpa using hown1)
  clear hown1 hg1 hi hz0 hz1 hz2
  go_loopw [4] (fun i wr => ∃ k : Nat, k ≤ n ∧ i = .int .i64 k ∧ wr.ownsRow w.heap.size 35 2 (.slice (some ⟨w.heap.size, 0, none⟩) n n) n (rowC (L.take k ++ List.replicate (n - k) (0, 0))) ∧ Below w.heap.size w wr) (fun i _ => n - (intOf i).toNat)
  case atStart => exact ⟨0, Nat.zero_le _, rfl, HO.out, hb1⟩
  case round =>
    clear HO hb1
    obtain ⟨k, hk, rfl, hown, hb⟩ := hrel
    have hbs := hb.size
    by_cases hlt : k < n
    · have hkx : k < L.length := by have := HX.out; omega
      obtain ⟨rfl, hbw⟩ := HA.out (by omega)
      obtain ⟨c0, c1⟩ := HC.out k L[k] (List.getElem?_eq_getElem hkx)
      have c0 := (hb.cell (p := ⟨b, off + k * 2, none⟩) (by show b < _; omega)).trans c0
      have c1 := (hb.cell (p := ⟨b, off + k * 2 + 1, none⟩) (by show b < _; omega)).trans c1
      have HST := Lib.hid (cl_step L n k HX.out hlt)
      generalize L[k] = d at c0 c1 HST
      obtain ⟨x, y⟩ := d
      simp only at c0 c1
      have HOwn := Lib.hid hown
      have HBw := Lib.hid hb
      clear hown hb
      go_wp2_with fail
      refine (toCell x y _).mono ?_
      rintro e w2 ⟨rfl, hb2⟩
      have hown := Reg.own_below HOwn.out hb2 (Nat.le_refl _)
      have hb := HBw.out.trans (hb2.mono hbs)
      have hu : ∀ m, m < n * 2 → ∃ u, w2.cell? ⟨w.heap.size, m, none⟩ = some u := fun m hm => by
        have hlen := hown.1
        rw [hown.cellAt m (by omega)]; exact ⟨_, List.getElem?_eq_getElem (by omega)⟩
      obtain ⟨u0, hu0⟩ := hu (k * 2) (by omega)
      obtain ⟨u1, hu1⟩ := hu (k * 2 + 1) (by omega)
      have hf0 := hown.frozenAt (k * 2)
      have hf1 := hown.frozenAt (k * 2 + 1)
      obtain ⟨hst, _⟩ := hown.stored (k * 2) (.int .i64 x)
      obtain ⟨hst, _⟩ := hst.stored (k * 2 + 1) (.int .i64 y)
      rw [HST.out] at hst
      have R := Lib.hid hst
      have hb3 := (hb.setCell (p := ⟨w.heap.size, k * 2, none⟩) (Nat.le_refl _) (.int .i64 x)).setCell (p := ⟨w.heap.size, k * 2 + 1, none⟩) (Nat.le_refl _) (.int .i64 y)
      have HB3 := Lib.hid hb3
      clear hown hst hb3 hb c0 c1 hb2 hu HOwn HBw HST
      go_wp2
      go_roundw
      case rel => exact ⟨k + 1, by omega, by go_num, R.out, HB3.out⟩
      case measure => (simp [intOf] <;> omega)
    · obtain rfl : k = n := by omega
      have R := Lib.hid (show wr.ownsRow w.heap.size 35 2 (.slice (some ⟨w.heap.size, 0, none⟩) k k) k (rowC L) by
        have e : rowC (L.take k ++ List.replicate (k - k) (0, 0)) = rowC L := by rw [List.take_of_length_le (by rw [HX.out]; omega), Nat.sub_self]; simp
        rw [e] at hown; exact hown)
      clear hown
      go_wp2
      go_ret
      exact ⟨_, _, rfl, Nat.le_refl _, R.out, hb⟩
theorem RowK.mono {w : World} {B B' : Nat} {A : Option Addr} {L : List (Int × Int)} (h : RowK w B A L) (hB : B ≤ B') : RowK w B' A L := by
  obtain ⟨b, off, h1, h2⟩ := h
  exact ⟨b, off, fun h0 => ⟨(h1 h0).1, by have := (h1 h0).2; omega⟩, h2⟩
theorem rowK_own {w : World} {base e n cap : Nat} {A : Option Addr} {L : List (Int × Int)} (h : w.ownsRow base e 2 (.slice A n cap) n (rowC L)) : RowK w w.heap.size A L := rowC_own h
theorem eqCellsK (w : World) (A A' : Option Addr) (n cap cap' : Nat) (L : List (Int × Int)) (hL : L.length = n) (hn : (n : Int) ≤ 1048576) (h1 : RowK w w.heap.size A L) (h2 : RowK w w.heap.size A' L) :
    Calls Try.prog 29 #[.slice A n cap, .slice A' n cap'] w (Bol true w) := by
  subst hL
  exact eqCells w A A' cap cap' L (by omega) h1 h2
end Go.Proofs.Ytkjoonmnedofiaa.Def
