/- DefD, DefC, DefM, FlmF, FAl in one text. -/
import Derived.Test.YtkjoonmnedofiaaRegL
import Derived.Test.YtkjoonmnedofiaaCell
import Derived.Test.YtkjoonmnedofiaaMgTil
import Derived.Test.YtkjoonmnedofiaaRegCl
import Derived.Test.YtkjoonmnedofiaaCellF
import Derived.Test.YtkjoonmnedofiaaCellN
import Derived.BigQuiet
import Derived.Deep.QuietTactic
import Derived.Test.YtkjoonmnedofiaaRegF
import Derived.OwnWalk
import Derived.Laws.OwnMore
import Derived.Test.YtkjoonmnedofiaaFlmA
import Derived.Test.YtkjoonmnedofiaaMgFAt

/- What chapter 10 asks of lists of cells, pure: no program here. -/
namespace Go.Proofs.Ytkjoonmnedofiaa.Def
set_option linter.unusedVariables false
set_option linter.unusedSimpArgs false
open Go.RowKit Go.Proofs.Ytkjoonmnedofiaa.Base Go.Proofs.Ytkjoonmnedofiaa.Pure Go.Proofs.Ytkjoonmnedofiaa.Cell Go.Proofs.Ytkjoonmnedofiaa.Reg Go.Joins

/-- are these black cells of the region? -/
def okBl (xs : List Int) (L : List (Int × Int)) : Bool := okRB xs && L.all fun c => hasB xs c.1 c.2 && blackB c.1 c.2
theorem okBl_iff {xs : List Int} {L : List (Int × Int)} : okBl xs L = true ↔ okRB xs = true ∧ ∀ c ∈ L, hasB xs c.1 c.2 = true ∧ blackB c.1 c.2 = true := by
  unfold okBl
  rw [Bool.and_eq_true, List.all_eq_true]
  exact and_congr_right fun _ => ⟨fun h c hc => by have := h c hc; rw [Bool.and_eq_true] at this; exact this, fun h c hc => by rw [Bool.and_eq_true]; exact h c hc⟩
/-- is a cell a neighbor of one of these? -/
def arL (L : List (Int × Int)) (c : Int × Int) : Bool := L.any fun b => nbB c.1 c.2 b.1 b.2
/-- WhiteAround. -/
def whtR (xs : List Int) (L : List (Int × Int)) : List (Int × Int) := if okBl xs L then (cellsR xs).filter (arL L) else []
theorem whtR_ok {xs : List Int} {L : List (Int × Int)} (h : okBl xs L = true) : whtR xs L = (cellsR xs).filter (arL L) := by unfold whtR; rw [if_pos h]
theorem whtR_not {xs : List Int} {L : List (Int × Int)} (h : okBl xs L = false) : whtR xs L = [] := by unfold whtR; rw [if_neg (by rw [h]; simp)]
theorem whtR_length (xs : List Int) (L : List (Int × Int)) : (whtR xs L).length ≤ 64 := by
  unfold whtR
  split
  · exact Nat.le_trans (List.length_filter_le _ _) (cellsR_length xs)
  · exact Nat.zero_le _
/-- how many different ones are among the first k. -/
def difK (L : List (Int × Int)) : Nat → Nat
  | 0 => 0
  | k + 1 => if L.getD k (0, 0) ∈ L.take k then difK L k else difK L k + 1
theorem getD_at {L : List (Int × Int)} {k : Nat} (hk : k < L.length) : L.getD k (0, 0) = L[k] := by simp [List.getD, hk]
theorem difK_old {L : List (Int × Int)} {k : Nat} (hk : k < L.length) (h : L[k] ∈ L.take k) : difK L (k + 1) = difK L k := by
  show (if L.getD k (0, 0) ∈ L.take k then difK L k else difK L k + 1) = _
  rw [getD_at hk, if_pos h]
theorem difK_new {L : List (Int × Int)} {k : Nat} (hk : k < L.length) (h : L[k] ∉ L.take k) : difK L (k + 1) = difK L k + 1 := by
  show (if L.getD k (0, 0) ∈ L.take k then difK L k else difK L k + 1) = _
  rw [getD_at hk, if_neg h]
theorem difK_le (L : List (Int × Int)) : ∀ k, difK L k ≤ k
  | 0 => Nat.le_refl _
  | k + 1 => by
    have := difK_le L k
    unfold difK
    split <;> omega
def difN (L : List (Int × Int)) : Nat := difK L L.length
theorem difK_nodup {L : List (Int × Int)} (h : L.Nodup) : ∀ k, k ≤ L.length → difK L k = k
  | 0, _ => rfl
  | k + 1, hk => by
    have ih := difK_nodup h k (by omega)
    rw [difK_new (by omega) (fun hm => ?_), ih]
    have hs : (L.take k ++ [L[k]'(by omega)]).Nodup := by
      rw [← List.take_succ_eq_append_getElem (by omega)]
      exact h.sublist (List.take_sublist _ _)
    exact (List.nodup_append.1 hs).2.2 _ hm _ (List.mem_singleton.2 rfl) rfl
theorem difN_nodup {L : List (Int × Int)} (h : L.Nodup) : difN L = L.length := difK_nodup h _ (Nat.le_refl _)
/-- Deficit. -/
def defR (xs : List Int) (L : List (Int × Int)) : Int := if okBl xs L then (difN L : Int) - ((whtR xs L).length : Int) else 0
theorem defR_ok {xs : List Int} {L : List (Int × Int)} (h : okBl xs L = true) : defR xs L = (difN L : Int) - ((whtR xs L).length : Int) := by unfold defR; rw [if_pos h]
theorem defR_not {xs : List Int} {L : List (Int × Int)} (h : okBl xs L = false) : defR xs L = 0 := by unfold defR; rw [if_neg (by rw [h]; simp)]
/-- IsProofOf. -/
def prfB (xs : List Int) (L : List (Int × Int)) (f : Int) : Bool := decide (0 < f) && decide (f ≤ defR xs L)
theorem mem_take_no {L : List (Int × Int)} {k : Nat} {c : Int × Int} (hk : k < L.length) (h : c ∉ L.take k) (hn : L[k] ≠ c) : c ∉ L.take (k + 1) := by
  rw [List.take_succ_eq_append_getElem hk, List.mem_append]
  rintro (q | q)
  · exact h q
  · exact hn (List.mem_singleton.1 q).symm
/-- the first k are black cells of the region. -/
def OkK (xs : List Int) (L : List (Int × Int)) (k : Nat) : Prop := ∀ c ∈ L.take k, hasB xs c.1 c.2 = true ∧ blackB c.1 c.2 = true
theorem OkK.zero (xs : List Int) (L : List (Int × Int)) : OkK xs L 0 := fun c hc => by simp at hc
theorem OkK.next {xs : List Int} {L : List (Int × Int)} {k : Nat} (h : OkK xs L k) (hk : k < L.length) (h1 : hasB xs L[k].1 L[k].2 = true) (h2 : blackB L[k].1 L[k].2 = true) : OkK xs L (k + 1) := fun c hc => by
  rw [List.take_succ_eq_append_getElem hk, List.mem_append] at hc
  rcases hc with q | q
  · exact h c q
  · rw [List.mem_singleton.1 q]; exact ⟨h1, h2⟩
theorem OkK.fin {xs : List Int} {L : List (Int × Int)} {k : Nat} (h : OkK xs L k) (hk : L.length ≤ k) : okBl xs L = okRB xs := by
  have : (L.all fun c => hasB xs c.1 c.2 && blackB c.1 c.2) = true := by
    rw [List.all_eq_true]
    intro c hc
    have := h c (by rw [List.take_of_length_le hk]; exact hc)
    rw [this.1, this.2]; rfl
  unfold okBl
  rw [this, Bool.and_true]
theorem okBl_no {xs : List Int} {L : List (Int × Int)} {k : Nat} (hk : k < L.length) (h : (hasB xs L[k].1 L[k].2 && blackB L[k].1 L[k].2) = false) : okBl xs L = false := by
  apply Bool.eq_false_iff.2
  intro q
  have := (okBl_iff.1 q).2 L[k] (List.getElem_mem hk)
  rw [this.1, this.2] at h
  cases h
/-- the cells around, among the first k of the region. -/
def whtK (xs : List Int) (L : List (Int × Int)) (k : Nat) : List (Int × Int) := ((cellsR xs).take k).filter (arL L)
theorem whtK_yes {xs : List Int} {L : List (Int × Int)} {k : Nat} (hk : k < (cellsR xs).length) (h : arL L (cellsR xs)[k] = true) : whtK xs L (k + 1) = whtK xs L k ++ [(cellsR xs)[k]] := by
  unfold whtK; rw [List.take_succ_eq_append_getElem hk, List.filter_append, List.filter_cons_of_pos h, List.filter_nil]
theorem whtK_no {xs : List Int} {L : List (Int × Int)} {k : Nat} (hk : k < (cellsR xs).length) (h : arL L (cellsR xs)[k] = false) : whtK xs L (k + 1) = whtK xs L k := by
  unfold whtK; rw [List.take_succ_eq_append_getElem hk, List.filter_append, List.filter_cons_of_neg (by rw [h]; simp), List.filter_nil, List.append_nil]
theorem whtK_fin {xs : List Int} {L : List (Int × Int)} {k : Nat} (hk : (cellsR xs).length ≤ k) (h : okBl xs L = true) : whtK xs L k = whtR xs L := by
  unfold whtK; rw [List.take_of_length_le hk, whtR_ok h]
theorem whtK_zero (xs : List Int) (L : List (Int × Int)) : whtK xs L 0 = [] := rfl
/-- none of the first i is a neighbor. -/
theorem arL_no {L : List (Int × Int)} {c : Int × Int} (h : ∀ j (hj : j < L.length), nbB c.1 c.2 L[j].1 L[j].2 = false) : arL L c = false := by
  unfold arL
  rw [List.any_eq_false]
  intro b hb
  obtain ⟨j, hj, rfl⟩ := List.getElem_of_mem hb
  rw [h j hj]; simp
theorem arL_yes {L : List (Int × Int)} {c : Int × Int} {j : Nat} (hj : j < L.length) (h : nbB c.1 c.2 L[j].1 L[j].2 = true) : arL L c = true := by
  unfold arL
  rw [List.any_eq_true]
  exact ⟨L[j], List.getElem_mem hj, h⟩
end Go.Proofs.Ytkjoonmnedofiaa.Def

/- Lists of cells as arguments; what chapter 10 asks of them, pure; the model's l10Has and l10Blacks. -/
namespace Go.Proofs.Ytkjoonmnedofiaa.Def
set_option linter.unusedVariables false
set_option linter.unusedSimpArgs false
set_option maxRecDepth 100000
open Go.RowKit Go.Proofs.Ytkjoonmnedofiaa.Base Go.Proofs.Ytkjoonmnedofiaa.Pure Go.Proofs.Ytkjoonmnedofiaa.Cell Go.Proofs.Ytkjoonmnedofiaa.CellF Go.Proofs.Ytkjoonmnedofiaa.CellN Go.Proofs.Ytkjoonmnedofiaa.Cels Go.Joins
open Go.Proofs.Ytkjoonmnedofiaa.Reg hiding Yes RC rc_start

/-- cells in a row that an argument names. -/
def RowK (w : World) (B : Nat) (A : Option Addr) (L : List (Int × Int)) : Prop :=
  ∃ b off : Nat, (0 < L.length → A = some ⟨b, off, none⟩ ∧ b < B) ∧ ∀ j p, L[j]? = some p → w.cell? ⟨b, off + j * 2, none⟩ = some (.int .i64 p.1) ∧ w.cell? ⟨b, off + j * 2 + 1, none⟩ = some (.int .i64 p.2)
theorem RowK.below {w w' : World} {B B' : Nat} {A : Option Addr} {L : List (Int × Int)} (h : RowK w B A L) (hb : Below B' w w') (hB : B ≤ B') : RowK w' B A L := by
  obtain ⟨b, off, h1, h2⟩ := h
  refine ⟨b, off, h1, fun j p hp => ?_⟩
  have hl : 0 < L.length := by
    rcases Nat.eq_zero_or_pos L.length with h0 | h0
    · rw [List.eq_nil_of_length_eq_zero h0] at hp; simp at hp
    · exact h0
  have hlt : b < B' := Nat.lt_of_lt_of_le (h1 hl).2 hB
  rw [hb.cell (p := ⟨b, off + j * 2, none⟩) hlt, hb.cell (p := ⟨b, off + j * 2 + 1, none⟩) hlt]
  exact h2 j p hp
/-- a cell's box. -/
def KB (w : World) (x y : Int) (W : World) : Prop :=
  Below w.heap.size w W ∧ w.heap.size < W.heap.size ∧ W.cell? ⟨w.heap.size, 0, none⟩ = some (.int .i64 x) ∧ W.cell? ⟨w.heap.size, 1, none⟩ = some (.int .i64 y)
theorem kb_start {T : TypeId} (x y : Int) (w : World) : KB w x y (w.alloc (.cells #[.int .i64 x, .int .i64 y] T)) := by
  have e2 : (w.alloc (.cells #[.int .i64 x, .int .i64 y] T)).heap[w.heap.size]? = some (.cells #[.int .i64 x, .int .i64 y] T) := by
    show (w.heap.push _)[w.heap.size]? = _
    exact Array.getElem?_push_size
  exact ⟨below_alloc1 w _, by simp, (cell_of_row _ _ 0 _ _ _ e2).trans rfl, (cell_of_row _ _ 1 _ _ _ e2).trans rfl⟩
theorem KB.drew {w W : World} {x y : Int} (h : KB w x y W) : KB w x y W.drew := ⟨h.1.drew, h.2⟩
theorem KB.on {w W W' : World} {x y : Int} (h : KB w x y W) (hb : Below W.heap.size W W') : KB w x y W' := by
  obtain ⟨h0, h1, h3, h4⟩ := h
  have hz := hb.size
  refine ⟨h0.trans (hb.mono h0.size), by omega, ?_, ?_⟩
  · rw [hb.cell (by show w.heap.size < _; omega)]; exact h3
  · rw [hb.cell (by show w.heap.size < _; omega)]; exact h4
end Go.Proofs.Ytkjoonmnedofiaa.Def

/- What the laws do with slices of cells: one is measured, one is copied. -/
namespace Go.Proofs.Ytkjoonmnedofiaa.Def
set_option linter.unusedVariables false
set_option linter.unusedSimpArgs false
set_option maxRecDepth 100000
open Go.RowKit Go.Proofs.Ytkjoonmnedofiaa.Base Go.Proofs.Ytkjoonmnedofiaa.Pure Go.Proofs.Ytkjoonmnedofiaa.Cell Go.Proofs.Ytkjoonmnedofiaa.CellF Go.Proofs.Ytkjoonmnedofiaa.Cels Go.Joins
open Go.Proofs.Ytkjoonmnedofiaa.Reg hiding Yes RC rc_start

theorem made2 (n : Nat) : (madeCells #[.int .i64 0, .int .i64 0] (n * 2)).toList = rowC (List.replicate n (0, 0)) := by
  apply List.ext_getElem?
  intro j
  by_cases hj : j < n * 2
  · have h := rowC_at (List.replicate n (0, 0)) (j / 2) (0, 0) (by rw [List.getElem?_replicate]; simp; omega)
    obtain ⟨h0, h1⟩ := h
    simp only [madeCells, Array.toList_map, Array.toList_range, List.getElem?_map, List.getElem?_range hj, Option.map_some]
    have hc : j = j / 2 * 2 ∨ j = j / 2 * 2 + 1 := by omega
    rcases hc with e | e
    · rw [show j % (#[Value.int .i64 0, .int .i64 0] : Array Value).size = 0 by show j % 2 = 0; omega]
      rw [← e] at h0; rw [h0]; rfl
    · rw [show j % (#[Value.int .i64 0, .int .i64 0] : Array Value).size = 1 by show j % 2 = 1; omega]
      rw [← e] at h1; rw [h1]; rfl
  · rw [List.getElem?_eq_none (by simp [madeCells]; omega), List.getElem?_eq_none (by rw [rowC_length, List.length_replicate]; omega)]
theorem cl_step (L : List (Int × Int)) (n k : Nat) (hx : L.length = n) (hk : k < n) :
    ((rowC (L.take k ++ List.replicate (n - k) (0, 0))).set (k * 2) (.int .i64 L[k].1)).set (k * 2 + 1) (.int .i64 L[k].2) = rowC (L.take (k + 1) ++ List.replicate (n - (k + 1)) (0, 0)) := by
  rw [show n - k = (n - (k + 1)) + 1 by omega, List.replicate_succ, rowC_put (L.take k) (0, 0) L[k] _ k (by rw [List.length_take]; omega), List.take_succ_eq_append_getElem (by omega), List.append_assoc]
  rfl
set_option maxHeartbeats 400000 in
theorem szCellS (A : Option Addr) (n cap : Nat) (left : Int) (h0 : 0 ≤ left) (h1 : left ≤ 1048576) (hn : (n : Int) ≤ 9223372036854775807) (w : World) :
    Calls Try.prog 32 #[.slice A n cap, .int .i64 left] w fun e w' => e = .returned (.int .i64 (szR left n)) ∧ w' = w := by
  by_cases h : (n : Int) ≤ left
  · have HE := Lib.hid (show szR left n = left - n by unfold szR; rw [if_pos h])
    have h2 : ¬ left - (n : Int) < 0 := by omega
    go_enter Try.func32, Try.ntmps32
    go_wp2
    go_ret
    exact ⟨by rw [HE.out]; rfl, rfl⟩
  · have HE := Lib.hid (show szR left n = -1 by unfold szR; rw [if_neg h])
    have h2 : left - (n : Int) < 0 := by omega
    go_enter Try.func32, Try.ntmps32
    go_wp2
    go_ret
    exact ⟨by rw [HE.out]; rfl, rfl⟩
/-- cells in memory of the call's own. -/
def ClPost (L : List (Int × Int)) (n : Nat) (w : World) (e : Ending) (w' : World) : Prop :=
  ∃ A cap, e = .returned (.slice A n cap) ∧ n ≤ cap ∧ w'.ownsRow w.heap.size 35 2 (.slice A n cap) n (rowC L) ∧ Below w.heap.size w w'
set_option maxHeartbeats 1000000 in
theorem toCellS (w : World) (A : Option Addr) (n cap B : Nat) (L : List (Int × Int)) (hx : L.length = n) (hn : (n : Int) ≤ 1048576) (h : RowK w B A L) (hB : B ≤ w.heap.size) :
    Calls Try.prog 34 #[.slice A n cap] w (ClPost L n w) := by
  obtain ⟨i0, hi, hz0, hz1, hz2⟩ := info_parts cellInfo
  obtain ⟨b, off, hA, hc⟩ := h
  have HA := Lib.hid (fun (h0 : 0 < n) => hA (by omega))
  have HC := Lib.hid hc
  have HX := Lib.hid hx
  clear hA hc hx
  go_enter Try.func34, Try.ntmps34
  go_wp2_with (first
    | (at_make; refine wpList_make_full _ rfl _ _ 30 rfl w.heap.size 35 i0 (.agg #[.int .i64 0, .int .i64 0]) 2 Try.underlying30 hi hz0 hz1 .i64 .i64 (n : Int) (n : Int) n rfl rfl rfl rfl (by rw [hz2]; omega) (by unfold maxLen; omega) (by omega) ?_; intro w1 hown1 hg1))
  have hb1 : Below w.heap.size w w1 := (Below.refl _ _).grown hg1 (by omega) (by simp)
  have HO := Lib.hid (show w1.ownsRow w.heap.size 35 2 (.slice (some ⟨w.heap.size, 0, none⟩) n n) n (rowC (L.take 0 ++ List.replicate (n - 0) (0, 0))) by
    rw [show (Value.agg #[.int .i64 0, .int .i64 0]).cells = #[.int .i64 0, .int .i64 0] from rfl, made2] at hown1
    simpa using hown1)
  clear hown1 hg1 hi hz0 hz1 hz2
  go_loopw [4] (fun i wr => ∃ k : Nat, k ≤ n ∧ i = .int .i64 k ∧ wr.ownsRow w.heap.size 35 2 (.slice (some ⟨w.heap.size, 0, none⟩) n n) n (rowC (L.take k ++ List.replicate (n - k) (0, 0))) ∧ Below w.heap.size w wr) (fun i _ => n - (intOf i).toNat)
  case atStart => exact ⟨0, Nat.zero_le _, rfl, HO.out, hb1⟩
  case round =>
    clear HO hb1
    obtain ⟨k, hk, rfl, hown, hb⟩ := hrel
    have hbs := hb.size
    by_cases hlt : k < n
    · have hkx : k < L.length := by have := HX.out; omega
      obtain ⟨rfl, hbw⟩ := HA.out (by omega)
      obtain ⟨c0, c1⟩ := HC.out k L[k] (List.getElem?_eq_getElem hkx)
      have c0 := (hb.cell (p := ⟨b, off + k * 2, none⟩) (by show b < _; omega)).trans c0
      have c1 := (hb.cell (p := ⟨b, off + k * 2 + 1, none⟩) (by show b < _; omega)).trans c1
      have HST := Lib.hid (cl_step L n k HX.out hlt)
      generalize L[k] = d at c0 c1 HST
      obtain ⟨x, y⟩ := d
      simp only at c0 c1
      have HOwn := Lib.hid hown
      have HBw := Lib.hid hb
      clear hown hb
      go_wp2_with fail
      refine (toCell x y _).mono ?_
      rintro e w2 ⟨rfl, hb2⟩
      have hown := Reg.own_below HOwn.out hb2 (Nat.le_refl _)
      have hb := HBw.out.trans (hb2.mono hbs)
      have hu : ∀ m, m < n * 2 → ∃ u, w2.cell? ⟨w.heap.size, m, none⟩ = some u := fun m hm => by
        have hlen := hown.1
        rw [hown.cellAt m (by omega)]; exact ⟨_, List.getElem?_eq_getElem (by omega)⟩
      obtain ⟨u0, hu0⟩ := hu (k * 2) (by omega)
      obtain ⟨u1, hu1⟩ := hu (k * 2 + 1) (by omega)
      have hf0 := hown.frozenAt (k * 2)
      have hf1 := hown.frozenAt (k * 2 + 1)
      obtain ⟨hst, _⟩ := hown.stored (k * 2) (.int .i64 x)
      obtain ⟨hst, _⟩ := hst.stored (k * 2 + 1) (.int .i64 y)
      rw [HST.out] at hst
      have R := Lib.hid hst
      have hb3 := (hb.setCell (p := ⟨w.heap.size, k * 2, none⟩) (Nat.le_refl _) (.int .i64 x)).setCell (p := ⟨w.heap.size, k * 2 + 1, none⟩) (Nat.le_refl _) (.int .i64 y)
      have HB3 := Lib.hid hb3
      clear hown hst hb3 hb c0 c1 hb2 hu HOwn HBw HST
      go_wp2
      go_roundw
      case rel => exact ⟨k + 1, by omega, by go_num, R.out, HB3.out⟩
      case measure => (simp [intOf] <;> omega)
    · obtain rfl : k = n := by omega
      have R := Lib.hid (show wr.ownsRow w.heap.size 35 2 (.slice (some ⟨w.heap.size, 0, none⟩) k k) k (rowC L) by
        have e : rowC (L.take k ++ List.replicate (k - k) (0, 0)) = rowC L := by rw [List.take_of_length_le (by rw [HX.out]; omega), Nat.sub_self]; simp
        rw [e] at hown; exact hown)
      clear hown
      go_wp2
      go_ret
      exact ⟨_, _, rfl, Nat.le_refl _, R.out, hb⟩
theorem RowK.mono {w : World} {B B' : Nat} {A : Option Addr} {L : List (Int × Int)} (h : RowK w B A L) (hB : B ≤ B') : RowK w B' A L := by
  obtain ⟨b, off, h1, h2⟩ := h
  exact ⟨b, off, fun h0 => ⟨(h1 h0).1, by have := (h1 h0).2; omega⟩, h2⟩
theorem rowK_own {w : World} {base e n cap : Nat} {A : Option Addr} {L : List (Int × Int)} (h : w.ownsRow base e 2 (.slice A n cap) n (rowC L)) : RowK w w.heap.size A L := rowC_own h
theorem eqCellsK (w : World) (A A' : Option Addr) (n cap cap' : Nat) (L : List (Int × Int)) (hL : L.length = n) (hn : (n : Int) ≤ 1048576) (h1 : RowK w w.heap.size A L) (h2 : RowK w w.heap.size A' L) :
    Calls Try.prog 29 #[.slice A n cap, .slice A' n cap'] w (Bol true w) := by
  subst hL
  exact eqCells w A A' cap cap' L (by omega) h1 h2
end Go.Proofs.Ytkjoonmnedofiaa.Def

/- Flips, the model's FlipAll: flip after flip, or the list as it was. -/
namespace Go.Proofs.Ytkjoonmnedofiaa.Flp
set_option linter.unusedVariables false
set_option linter.unusedSimpArgs false
set_option maxRecDepth 100000
open Go.RowKit Go.Proofs.Ytkjoonmnedofiaa.Base Go.Proofs.Ytkjoonmnedofiaa.Pure Go.Proofs.Ytkjoonmnedofiaa.Cell Go.Proofs.Ytkjoonmnedofiaa.Dom Go.Proofs.Ytkjoonmnedofiaa.Dms Go.Proofs.Ytkjoonmnedofiaa.Til Go.Joins
open Go.Proofs.Ytkjoonmnedofiaa.Reg (own_below own_base)
open Go.Proofs.Ytkjoonmnedofiaa.Def (RowK)

theorem flip_len (L : List Dm) (x y : Int) : (flipL L x y).length ≤ L.length := by
  by_cases hk : kindN L x y = 0
  · rw [flip_no hk]; exact Nat.le_refl _
  · rw [flip_yes hk]
    have h := oth_two (kind_is hk).2
    have := sortM_length (pr1 x y (!decide (kindN L x y = 2)) :: pr2 x y (!decide (kindN L x y = 2)) :: oth L x y (decide (kindN L x y = 2)))
    unfold turn
    simp only [List.length_cons] at this
    omega
/-- FlipAll's list and bool. -/
def allL (L : List Dm) (C : List (Int × Int)) : List Dm := (flipAllR L C).getD L
def allB (L : List Dm) (C : List (Int × Int)) : Bool := (flipAllR L C).isSome
theorem all_yes {L M : List Dm} {C : List (Int × Int)} (h : C.length ≤ 200) (e : allF L C = some M) : allL L C = M ∧ allB L C = true := by
  unfold allL allB flipAllR; rw [if_neg (by omega), e]; exact ⟨rfl, rfl⟩
theorem all_no {L : List Dm} {C : List (Int × Int)} (h : 200 < C.length ∨ allF L C = none) : allL L C = L ∧ allB L C = false := by
  unfold allL allB flipAllR
  by_cases q : 200 < C.length
  · rw [if_pos q]; exact ⟨rfl, rfl⟩
  · rw [if_neg q]
    rcases h with h | h
    · exact absurd h q
    · rw [h]; exact ⟨rfl, rfl⟩
theorem allF_len : ∀ (C : List (Int × Int)) (L M : List Dm), allF L C = some M → M.length ≤ L.length := by
  intro C
  induction C with
  | nil => intro L M h; have e : L = M := by injection h
           rw [e]; exact Nat.le_refl _
  | cons c C ih =>
    intro L M h
    have h' : (if canB L c.1 c.2 then allF (flipL L c.1 c.2) C else none) = some M := h
    by_cases hc : canB L c.1 c.2 = true
    · rw [if_pos hc] at h'
      exact Nat.le_trans (ih _ _ h') (flip_len L c.1 c.2)
    · rw [if_neg hc] at h'; cases h'
theorem allL_len (L : List Dm) (C : List (Int × Int)) : (allL L C).length ≤ L.length := by
  unfold allL flipAllR
  by_cases q : 200 < C.length
  · rw [if_pos q]; exact Nat.le_refl _
  · rw [if_neg q]
    cases h : allF L C with
    | none => exact Nat.le_refl _
    | some M => exact allF_len C L M h
theorem allF_at {M : List Dm} {C : List (Int × Int)} {k : Nat} (hk : k < C.length) : allF M (C.drop k) = if canB M C[k].1 C[k].2 then allF (flipL M C[k].1 C[k].2) (C.drop (k + 1)) else none := by
  rw [List.drop_eq_getElem_cons hk]; rfl
set_option maxHeartbeats 4000000 in
theorem sFlipAll (w : World) (A : Option Addr) (n cap B : Nat) (L : List Dm) (hL : L.length = n) (hn : (n : Int) ≤ 1048576) (h : RowM w B A L) (hB : B ≤ w.heap.size) (A2 : Option Addr) (m cap2 B2 : Nat) (C : List (Int × Int)) (hC : C.length = m) (hm : (m : Int) ≤ 1048576) (h2 : Go.Proofs.Ytkjoonmnedofiaa.Def.RowK w B2 A2 C) (hB2 : B2 ≤ w.heap.size) :
    Calls Try.prog 33 #[.slice A n cap, .slice A2 m cap2] w (FlPost (allL L C) (allB L C) w) := by
  have HR := Lib.hid (fun W (hb : Below w.heap.size w W) => h.below hb hB)
  obtain ⟨b, off, hA, hc⟩ := h2
  have HA := Lib.hid (fun (h0 : 0 < m) => hA (by omega))
  have HC := Lib.hid hc
  have HLn := Lib.hid hL
  have HCn := Lib.hid hC
  have HY := Lib.hid (fun M h e => all_yes (L := L) (M := M) (C := C) h e)
  have HN := Lib.hid (fun h => all_no (L := L) (C := C) h)
  have HM := Lib.hid (World.ownsRow_made (base := w.heap.size) (e := 38) (size := 3) w #[] 0 (Nat.le_refl _) (by unfold maxLen; omega) rfl)
  have HB1 := Lib.hid (below_alloc1 w (.cells #[] 38))
  generalize allL L C = R at HY HN ⊢
  generalize allB L C = r at HY HN ⊢
  clear hA hc hL hC h
  go_enter Try.func33, Try.ntmps33
  go_wp2_with (first
    | (at_builtin; refine wpList_copy _ rfl _ _ rfl w.heap.size w.heap.size 0 rfl HM.out A n cap _ L HLn.out hn rfl (HR.out _ HB1.out) (by simp) ?_; intro g' c' w2 hc hown hbw))
  have HO := Lib.hid hown
  have HB2 := Lib.hid (hbw _ _ HB1.out (by simp) (Nat.le_refl _))
  clear hown hbw HM HB1
  go_wp2_with fail
  go_loopw [6, 7] (fun s i wr => ∃ (k : Nat) (M : List Dm) (Ag : Option Addr) (cg : Nat), k ≤ m ∧ i = .int .i64 k ∧ s = .slice Ag M.length cg ∧ M.length ≤ cg ∧ M.length ≤ n ∧ Hid (allF L C = allF M (C.drop k)) ∧ (0 < k → m ≤ 200) ∧ wr.ownsRow w.heap.size 38 3 (.slice Ag M.length cg) M.length (rowM M) ∧ Below w.heap.size w wr) (fun _ i _ => m - (intOf i).toNat)
  case atStart => exact ⟨0, L, some ⟨g', 0, none⟩, c', Nat.zero_le _, rfl, by rw [HLn.out], by rw [HLn.out]; exact hc, by rw [HLn.out]; exact Nat.le_refl _, Lib.hid (by rw [List.drop_zero]), fun h => by omega, by rw [HLn.out]; exact HO.out, HB2.out⟩
  case round =>
    clear HO HB2 hc
    obtain ⟨k, M, Ag, cg, hk, rfl, rfl, hcg, hMn, HF, h200, hown, hb⟩ := hrel
    have hbs := hb.size
    by_cases hlt : k < m
    · have hkC : k < C.length := by rw [HCn.out]; exact hlt
      obtain ⟨rfl, hbB⟩ := HA.out (by omega)
      obtain ⟨e0, e1⟩ := HC.out k C[k] (List.getElem?_eq_getElem hkC)
      have d0 := (hb.cell (p := ⟨b, off + k * 2, none⟩) (by show b < _; omega)).trans e0
      have d1 := (hb.cell (p := ⟨b, off + k * 2 + 1, none⟩) (by show b < _; omega)).trans e1
      have HS := Lib.hid (allF_at (M := M) hkC)
      have HFl := Lib.hid (sFlipAt wr Ag M.length cg wr.heap.size M rfl (by omega) (rowM_own hown) (Nat.le_refl _) C[k].1 C[k].2)
      have hfl := flip_len M C[k].1 C[k].2
      generalize C[k] = p at d0 d1 HS HFl hfl
      obtain ⟨x, y⟩ := p
      simp only at d0 d1 HS HFl hfl
      generalize canB M x y = ok at HFl HS
      generalize flipL M x y = M2 at HFl HS hfl
      have HBw := Lib.hid hb
      clear e0 e1 hown hb
      go_wp2_with fail
      refine HFl.out.mono ?_
      rintro e w3 ⟨A3, c3, rfl, hc3, hown3, hb3⟩
      have hb3' := HBw.out.trans (hb3.mono hbs)
      have HO3 := Lib.hid (own_base hown3 hbs)
      have HB3 := Lib.hid hb3'
      have hs3 := hb3'.size
      have HM3 := Lib.hid (World.ownsRow_made (base := w3.heap.size) (e := 38) (size := 3) w3 #[] 0 (Nat.le_refl _) (by unfold maxLen; omega) rfl)
      clear hown3 hb3 HBw HFl hb3' d0 d1
      by_cases hgo : ok = true ∧ m ≤ 200
      · obtain ⟨rfl, hm2⟩ := hgo
        have hS := HS.out
        rw [if_pos rfl] at hS
        have HF2 := Lib.hid (HF.out.trans hS)
        have hd : decide ((200 : Int) < (m : Int)) = false := decide_eq_false (by omega)
        clear hS HS HF HM3
        go_wp2
        go_roundw
        case rel => exact ⟨k + 1, M2, A3, c3, by omega, by go_num, rfl, hc3, by omega, HF2, fun _ => hm2, HO3.out, HB3.out⟩
        case measure => (simp [intOf] <;> omega)
      · have hN : R = L ∧ r = false := HN.out (by
          rcases Nat.lt_or_ge 200 m with q | q
          · exact .inl (by rw [HCn.out]; exact q)
          · right
            have hS := HS.out
            cases ok with
            | true => exact absurd ⟨rfl, q⟩ hgo
            | false => rw [if_neg (by simp)] at hS; exact HF.out.trans hS)
        obtain ⟨rfl, rfl⟩ := hN
        clear HS HF HO3
        cases ok with
        | false =>
          clear hgo
          go_wp2_with (first
            | (at_builtin; refine wpList_copy _ rfl _ _ rfl w3.heap.size w3.heap.size 0 rfl HM3.out A n cap _ R HLn.out hn rfl (HR.out _ (HB3.out.alloc hs3 _)) (by simp) ?_; intro g4 c4 w4 hc4 hown4 hbw4))
          have HO := Lib.hid (own_base hown4 hs3)
          have HB2 := Lib.hid (hbw4 _ _ (HB3.out.alloc hs3 _) (by simp; omega) hs3)
          clear hown4 hbw4
          go_wp2
          refine bodyPost_ret (v := .tuple #[.slice (some ⟨g4, 0, none⟩) n c4, .bool false]) (by simp [results, Try.results33, go_sem]) rfl ?_
          rw [← HLn.out] at hc4 HO ⊢
          exact ⟨_, c4, rfl, hc4, HO.out, HB2.out⟩
        | true =>
          have hm2 : ¬ (m : Int) ≤ 200 := fun q => hgo ⟨rfl, by omega⟩
          clear hgo
          go_wp2_with (first
            | (at_builtin; refine wpList_copy _ rfl _ _ rfl w3.heap.size w3.heap.size 0 rfl HM3.out A n cap _ R HLn.out hn rfl (HR.out _ (HB3.out.alloc hs3 _)) (by simp) ?_; intro g4 c4 w4 hc4 hown4 hbw4))
          have HO := Lib.hid (own_base hown4 hs3)
          have HB2 := Lib.hid (hbw4 _ _ (HB3.out.alloc hs3 _) (by simp; omega) hs3)
          clear hown4 hbw4
          go_wp2
          refine bodyPost_ret (v := .tuple #[.slice (some ⟨g4, 0, none⟩) n c4, .bool false]) (by simp [results, Try.results33, go_sem]) rfl ?_
          rw [← HLn.out] at hc4 HO ⊢
          exact ⟨_, c4, rfl, hc4, HO.out, HB2.out⟩
    · obtain rfl : k = m := by omega
      have hE : R = M ∧ r = true := HY.out M (by
        have := HCn.out
        rcases Nat.eq_zero_or_pos k with q | q
        · omega
        · have := h200 q; omega) (by rw [HF.out, List.drop_of_length_le (by rw [HCn.out]; exact Nat.le_refl _)]; rfl)
      obtain ⟨rfl, rfl⟩ := hE
      have HO := Lib.hid hown
      clear hown
      go_wp2
      exact bodyPost_ret (v := .tuple #[.slice Ag R.length cg, .bool true]) (by simp [results, Try.results33, go_sem]) rfl ⟨Ag, cg, rfl, hcg, HO.out, hb⟩
end Go.Proofs.Ytkjoonmnedofiaa.Flp

/- FlipAll, the program's: flip after flip, or the list as it was. -/
namespace Go.Proofs.Ytkjoonmnedofiaa.Flp
set_option linter.unusedVariables false
set_option linter.unusedSimpArgs false
set_option maxRecDepth 100000
open Go.RowKit Go.Proofs.Ytkjoonmnedofiaa.Base Go.Proofs.Ytkjoonmnedofiaa.Pure Go.Proofs.Ytkjoonmnedofiaa.Cell Go.Proofs.Ytkjoonmnedofiaa.Dom Go.Proofs.Ytkjoonmnedofiaa.Dms Go.Proofs.Ytkjoonmnedofiaa.Til Go.Joins
open Go.Proofs.Ytkjoonmnedofiaa.Reg (own_below own_base)


theorem flip_fits {L : List Dm} (hf : Fits L) (x y : Int) : Fits (flipL L x y) := by
  by_cases hk : kindN L x y = 0
  · rw [flip_no hk]; exact hf
  · rw [flip_yes hk]
    intro p hp
    unfold turn at hp
    exact fits_ok ((sortM_good _).2 p |>.1 hp).2
set_option maxHeartbeats 4000000 in
theorem iFlipAll (w : World) (A : Option Addr) (n cap B : Nat) (L : List Dm) (hL : L.length = n) (hn : (n : Int) ≤ 1048576) (hf : Fits L) (h : RowM w B A L) (hB : B ≤ w.heap.size) (A2 : Option Addr) (m cap2 B2 : Nat) (C : List (Int × Int)) (hC : C.length = m) (hm : (m : Int) ≤ 1048576) (h2 : Go.Proofs.Ytkjoonmnedofiaa.Def.RowK w B2 A2 C) (hB2 : B2 ≤ w.heap.size) :
    Calls Try.prog 18 #[.slice A n cap, .slice A2 m cap2] w (FlPost (allL L C) (allB L C) w) := by
  have HCl := Lib.hid (fun W (hb : Below w.heap.size w W) => iCloneM W A n cap B L hL hn (h.below hb hB) (by have := hb.size; omega))
  obtain ⟨b, off, hA, hc⟩ := h2
  have HA := Lib.hid (fun (h0 : 0 < m) => hA (by omega))
  have HC := Lib.hid hc
  have HLn := Lib.hid hL
  have HCn := Lib.hid hC
  have HFt := Lib.hid hf
  have HY := Lib.hid (fun M h e => all_yes (L := L) (M := M) (C := C) h e)
  have HN := Lib.hid (fun h => all_no (L := L) (C := C) h)
  generalize allL L C = R at HY HN ⊢
  generalize allB L C = r at HY HN ⊢
  clear hA hc hL hC h hf
  by_cases hbig : (200 : Int) < (m : Int)
  · obtain ⟨rfl, rfl⟩ := HN.out (.inl (by rw [HCn.out]; omega))
    clear HY HN HC HA HFt
    go_enter Try.func18, Try.ntmps18
    go_wp2_with fail
    refine (HCl.out _ (Below.refl _ _)).mono ?_
    rintro e w4 ⟨A4, c4, rfl, hc4, hown4, hb4⟩
    have HO := Lib.hid hown4
    have HB := Lib.hid hb4
    clear hown4 hb4 HCl
    go_wp2
    refine bodyPost_ret (v := .tuple #[.slice A4 n c4, .bool false]) (by simp [results, Try.results18, go_sem]) rfl ?_
    have hl := HLn.out
    subst hl
    exact ⟨_, c4, rfl, hc4, HO.out, HB.out⟩
  · go_enter Try.func18, Try.ntmps18
    go_wp2_with fail
    refine (HCl.out _ (Below.refl _ _)).mono ?_
    rintro e w4 ⟨A4, c4, rfl, hc4, hown4, hb4⟩
    have HO := Lib.hid hown4
    have HB := Lib.hid hb4
    clear hown4 hb4
    go_wp2_with fail
    go_loopw [6, 20] (fun s i wr => ∃ (k : Nat) (M : List Dm) (Ag : Option Addr) (cg : Nat), k ≤ m ∧ i = .int .i64 k ∧ s = .slice Ag M.length cg ∧ M.length ≤ cg ∧ M.length ≤ n ∧ Hid (allF L C = allF M (C.drop k)) ∧ Hid (Fits M) ∧ wr.ownsRow w.heap.size 38 3 (.slice Ag M.length cg) M.length (rowM M) ∧ Below w.heap.size w wr) (fun _ i _ => m - (intOf i).toNat)
    case atStart => exact ⟨0, L, A4, c4, Nat.zero_le _, rfl, by rw [HLn.out], by rw [HLn.out]; exact hc4, by rw [HLn.out]; exact Nat.le_refl _, Lib.hid (by rw [List.drop_zero]), HFt, by rw [HLn.out]; exact HO.out, HB.out⟩
    case round =>
      clear HO HB hc4
      obtain ⟨k, M, Ag, cg, hk, rfl, rfl, hcg, hMn, HF, HFM, hown, hb⟩ := hrel
      have hbs := hb.size
      by_cases hlt : k < m
      · have hkC : k < C.length := by rw [HCn.out]; exact hlt
        obtain ⟨rfl, hbB⟩ := HA.out (by omega)
        obtain ⟨e0, e1⟩ := HC.out k C[k] (List.getElem?_eq_getElem hkC)
        have d0 := (hb.cell (p := ⟨b, off + k * 2, none⟩) (by show b < _; omega)).trans e0
        have d1 := (hb.cell (p := ⟨b, off + k * 2 + 1, none⟩) (by show b < _; omega)).trans e1
        have HS := Lib.hid (allF_at (M := M) hkC)
        have HFl := Lib.hid (fun W (hbW : Below wr.heap.size wr W) => iFlipAt W Ag M.length cg W.heap.size M rfl (by omega) HFM.out (rowM_own (own_below hown hbW (Nat.le_refl _))) (Nat.le_refl _) C[k].1 C[k].2)
        have HF3 := Lib.hid (flip_fits HFM.out C[k].1 C[k].2)
        have hfl := flip_len M C[k].1 C[k].2
        generalize C[k] = p at d0 d1 HS HFl hfl HF3
        obtain ⟨x, y⟩ := p
        simp only at d0 d1 HS HFl hfl HF3
        generalize canB M x y = ok at HFl HS
        generalize flipL M x y = M2 at HFl HS hfl HF3
        have hkm : (k : Int) < (m : Int) := by omega
        have hbx := below_alloc1 wr (.cells #[.int .i64 x, .int .i64 y] 35)
        have HX := Lib.hid hbx
        have KX := Lib.hid (At2.new wr x y)
        have HBw := Lib.hid hb
        clear e0 e1 hown hb hbx
        go_wp2_with fail
        generalize wr.alloc (.cells #[.int .i64 x, .int .i64 y] 35) = W1 at HX KX ⊢
        refine (HFl.out _ HX.out).mono ?_
        rintro e w3 ⟨A3, c3, rfl, hc3, hown3, hb3⟩
        have HB3 := Lib.hid ((HBw.out.trans (HX.out.mono hbs)).trans (hb3.mono (by have := HX.out.size; omega)))
        have HO3 := Lib.hid (own_base hown3 (by have := HX.out.size; omega : w.heap.size ≤ W1.heap.size))
        clear hown3 hb3 HBw HFl d0 d1 HX KX
        cases ok with
        | true =>
          have hS := HS.out
          rw [if_pos rfl] at hS
          have HF2 := Lib.hid (HF.out.trans hS)
          clear hS HS HF
          go_wp2
          go_roundw
          case rel => exact ⟨k + 1, M2, A3, c3, by omega, by go_num, rfl, hc3, by omega, HF2, HF3, HO3.out, HB3.out⟩
          case measure => (simp [intOf] <;> omega)
        | false =>
          have hN : R = L ∧ r = false := HN.out (by
            right
            have hS := HS.out
            rw [if_neg (by simp)] at hS
            exact HF.out.trans hS)
          obtain ⟨rfl, rfl⟩ := hN
          clear HS HF HO3 HY HN
          go_wp2_with fail
          refine (HCl.out _ HB3.out).mono ?_
          rintro e w5 ⟨A5, c5, rfl, hc5, hown5, hb5⟩
          have HO := Lib.hid (own_base hown5 HB3.out.size)
          have HB2 := Lib.hid (HB3.out.trans (hb5.mono HB3.out.size))
          clear hown5 hb5 HCl
          go_wp2
          refine bodyPost_ret (v := .tuple #[.slice A5 n c5, .bool false]) (by simp [results, Try.results18, go_sem]) rfl ?_
          have hl := HLn.out
          subst hl
          exact ⟨_, c5, rfl, hc5, HO.out, HB2.out⟩
      · obtain rfl : k = m := by omega
        have hE : R = M ∧ r = true := HY.out M (by rw [HCn.out]; omega) (by rw [HF.out, List.drop_of_length_le (by rw [HCn.out]; exact Nat.le_refl _)]; rfl)
        obtain ⟨rfl, rfl⟩ := hE
        have HO := Lib.hid hown
        clear hown
        go_wp2
        exact bodyPost_ret (v := .tuple #[.slice Ag R.length cg, .bool true]) (by simp [results, Try.results18, go_sem]) rfl ⟨Ag, cg, rfl, hcg, HO.out, hb⟩
end Go.Proofs.Ytkjoonmnedofiaa.Flp
