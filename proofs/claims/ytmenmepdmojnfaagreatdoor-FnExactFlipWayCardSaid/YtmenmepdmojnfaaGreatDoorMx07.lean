/- TilM, TilN, Dss, TilA in one text. -/
import Derived.Test.YtmenmepdmojnfaaGreatDoorMx03
import Derived.Test.YtmenmepdmojnfaaGreatDoorMx06
import Derived.Test.YtmenmepdmojnfaaGreatDoorMx04
import Derived.Laws.OwnMore
import Derived.Deep.RegionHeld3
import Derived.Test.YtmenmepdmojnfaaGreatDoorMx02

namespace Go.Proofs.YtmenmepdmojnfaaGreatDoor.Til
set_option linter.unusedVariables false
set_option linter.unusedSimpArgs false
open Go.RowKit Go.Proofs.YtmenmepdmojnfaaGreatDoor.Cell Go.Proofs.YtmenmepdmojnfaaGreatDoor.Dom Go.Proofs.YtmenmepdmojnfaaGreatDoor.Dms Go.Joins
open Go.Proofs.YtmenmepdmojnfaaGreatDoor.Reg hiding Yes add_none

theorem domInfo : (Tryz.prog.info? 73).map (fun i => (i.zero, i.size, i.bytes)) = some (some (.agg #[.int .i64 0, .int .i64 0, .bool false]), 3, 24) := by kernel_rfl
theorem made3 (n : Nat) : (madeCells #[.int .i64 0, .int .i64 0, .bool false] (n * 3)).toList = rowM (List.replicate n (0, 0, false)) := by
 apply List.ext_getElem?
 intro j
 by_cases hj : j < n * 3
 ·have h := rowM_at (List.replicate n (0, 0, false)) (j / 3) (0, 0, false) (by rw [List.getElem?_replicate]; simp; omega)
  obtain ⟨h0, h1, h2⟩ := h
  simp only [madeCells, Array.toList_map, Array.toList_range, List.getElem?_map, List.getElem?_range hj, Option.map_some]
  have hc : j = j / 3 * 3 ∨ j = j / 3 * 3 + 1 ∨ j = j / 3 * 3 + 2 := by omega
  rcases hc with e | e | e
  ·rw [show j % (#[Value.int .i64 0, .int .i64 0, .bool false] : Array Value).size = 0 by show j % 3 = 0; omega]
   rw [← e] at h0; rw [h0]; rfl
  ·rw [show j % (#[Value.int .i64 0, .int .i64 0, .bool false] : Array Value).size = 1 by show j % 3 = 1; omega]
   rw [← e] at h1; rw [h1]; rfl
  ·rw [show j % (#[Value.int .i64 0, .int .i64 0, .bool false] : Array Value).size = 2 by show j % 3 = 2; omega]
   rw [← e] at h2; rw [h2]; rfl
 ·rw [List.getElem?_eq_none (by simp [madeCells]; omega), List.getElem?_eq_none (by rw [rowM_length, List.length_replicate]; omega)]

set_option maxHeartbeats 400000 in
theorem szDominoS (A : Option Addr) (n cap : Nat) (left : Int) (h0 : 0 ≤ left) (h1 : left ≤ 1048576) (hn : (n : Int) ≤ 9223372036854775807) (w : World) :
  Calls Tryz.prog 21 #[.slice A n cap, .int .i64 left] w fun e w' => e = .returned (.int .i64 (szR left n)) ∧ w' = w := by
 by_cases h : (n : Int) ≤ left
 ·have HE := Lib.hid (show szR left n = left - n by unfold szR; rw [if_pos h])
  have h2 : ¬ left - (n : Int) < 0 := by omega
  go_enter Tryz.func21, Tryz.ntmps21
  go_wp2
  go_ret
  exact ⟨by rw [HE.out]; rfl, rfl⟩
 ·have HE := Lib.hid (show szR left n = -1 by unfold szR; rw [if_neg h])
  have h2 : left - (n : Int) < 0 := by omega
  go_enter Tryz.func21, Tryz.ntmps21
  go_wp2
  go_ret
  exact ⟨by rw [HE.out]; rfl, rfl⟩

def DmPost (L : List Dm) (n : Nat) (w : World) (e : Ending) (w' : World) : Prop :=
 ∃ A cap, e = .returned (.slice A n cap) ∧ n ≤ cap ∧ w'.ownsRow w.heap.size 73 3 (.slice A n cap) n (rowM L) ∧ Below w.heap.size w w'
theorem dm_step (L M : List Dm) (n k : Nat) (hx : L.length = n) (hk : k < n) :
  (((rowM (L.take k ++ List.replicate (n - k) (0, 0, false))).set (k * 3) (.int .i64 L[k].1)).set (k * 3 + 1) (.int .i64 L[k].2.1)).set (k * 3 + 2) (.bool L[k].2.2) = rowM (L.take (k + 1) ++ List.replicate (n - (k + 1)) (0, 0, false)) := by
 rw [show n - k = (n - (k + 1)) + 1 by omega, List.replicate_succ, rowM_put (L.take k) (0, 0, false) L[k] _ k (by rw [List.length_take]; omega), List.take_succ_eq_append_getElem (by omega), List.append_assoc]
 rfl

set_option maxRecDepth 100000 in
set_option maxHeartbeats 1000000 in
theorem toDominoS (w : World) (A : Option Addr) (n cap B : Nat) (L : List Dm) (hx : L.length = n) (hn : (n : Int) ≤ 1048576) (h : RowM w B A L) (hB : B ≤ w.heap.size) :
  Calls Tryz.prog 24 #[.slice A n cap] w (DmPost L n w) := by
 obtain ⟨i0, hi, hz0, hz1, hz2⟩ := info_parts domInfo
 obtain ⟨b, off, hA, hc⟩ := h.at
 have HA := Lib.hid hA
 have HC := Lib.hid hc
 have HX := Lib.hid hx
 clear hA hc hx h
 go_enter Tryz.func24, Tryz.ntmps24
 go_wp2_with (first
  | (at_make; refine wpList_make_full _ rfl _ _ 27 rfl w.heap.size 73 i0 (.agg #[.int .i64 0, .int .i64 0, .bool false]) 3 Tryz.underlying27 hi hz0 hz1 .i64 .i64 (n : Int) (n : Int) n rfl rfl rfl rfl (by rw [hz2]; omega) (by unfold maxLen; omega) (by omega) ?_; intro w1 hown1 hg1))
 have hb1 : Below w.heap.size w w1 := (Below.refl _ _).grown hg1 (by omega) (by simp)
 have HO := Lib.hid (show w1.ownsRow w.heap.size 73 3 (.slice (some ⟨w.heap.size, 0, none⟩) n n) n (rowM (L.take 0 ++ List.replicate (n - 0) (0, 0, false))) by
  rw [show (Value.agg #[.int .i64 0, .int .i64 0, .bool false]).cells = #[.int .i64 0, .int .i64 0, .bool false] from rfl, made3] at hown1
  simpa using hown1)
 clear hown1 hg1 hi hz0 hz1 hz2
 go_loopw [4] (fun i wr => ∃ k : Nat, k ≤ n ∧ i = .int .i64 k ∧ wr.ownsRow w.heap.size 73 3 (.slice (some ⟨w.heap.size, 0, none⟩) n n) n (rowM (L.take k ++ List.replicate (n - k) (0, 0, false))) ∧ Below w.heap.size w wr) (fun i _ => n - (intOf i).toNat)
 case atStart => exact ⟨0, Nat.zero_le _, rfl, HO.out, hb1⟩
 case round =>
  clear HO hb1
  obtain ⟨k, hk, rfl, hown, hb⟩ := hrel
  have hbs := hb.size
  by_cases hlt : k < n
  ·have hkx : k < L.length := by have := HX.out; omega
   obtain ⟨rfl, hbw⟩ := HA.out (by omega)
   obtain ⟨c0, c1, c2⟩ := HC.out k hkx
   have c0 := (hb.cell (p := ⟨b, off + k * 3, none⟩) (by show b < _; omega)).trans c0
   have c1 := (hb.cell (p := ⟨b, off + k * 3 + 1, none⟩) (by show b < _; omega)).trans c1
   have c2 := (hb.cell (p := ⟨b, off + k * 3 + 2, none⟩) (by show b < _; omega)).trans c2
   have HST := Lib.hid (dm_step L L n k HX.out hlt)
   generalize L[k] = d at c0 c1 c2 HST
   obtain ⟨x, y, bb⟩ := d
   simp only at c0 c1 c2
   have HOwn := Lib.hid hown
   have HBw := Lib.hid hb
   clear hown hb
   go_wp2_with fail
   refine (toDomino x y bb _).mono ?_
   rintro e w2 ⟨rfl, hb2⟩
   have hown := Reg.own_below HOwn.out hb2 (Nat.le_refl _)
   have hb := HBw.out.trans (hb2.mono hbs)
   have hu : ∀ m, m < n * 3 → ∃ u, w2.cell? ⟨w.heap.size, m, none⟩ = some u := fun m hm => by
    have hlen := hown.1
    rw [hown.cellAt m (by omega)]; exact ⟨_, List.getElem?_eq_getElem (by omega)⟩
   obtain ⟨u0, hu0⟩ := hu (k * 3) (by omega)
   obtain ⟨u1, hu1⟩ := hu (k * 3 + 1) (by omega)
   obtain ⟨u2, hu2⟩ := hu (k * 3 + 2) (by omega)
   have hf0 := hown.frozenAt (k * 3)
   have hf1 := hown.frozenAt (k * 3 + 1)
   have hf2 := hown.frozenAt (k * 3 + 2)
   obtain ⟨hst, _⟩ := hown.stored (k * 3) (.int .i64 x)
   obtain ⟨hst, _⟩ := hst.stored (k * 3 + 1) (.int .i64 y)
   obtain ⟨hst, _⟩ := hst.stored (k * 3 + 2) (.bool bb)
   rw [HST.out] at hst
   have R := Lib.hid hst
   have hb3 := ((hb.setCell (p := ⟨w.heap.size, k * 3, none⟩) (Nat.le_refl _) (.int .i64 x)).setCell (p := ⟨w.heap.size, k * 3 + 1, none⟩) (Nat.le_refl _) (.int .i64 y)).setCell (p := ⟨w.heap.size, k * 3 + 2, none⟩) (Nat.le_refl _) (.bool bb)
   have HB3 := Lib.hid hb3
   clear hown hst hb3 hb c0 c1 c2 hb2 hu HOwn HBw HST
   go_wp2
   go_roundw
   case rel => exact ⟨k + 1, by omega, by go_num, R.out, HB3.out⟩
   case measure => (simp [intOf] <;> omega)
  ·obtain rfl : k = n := by omega
   have R := Lib.hid (show wr.ownsRow w.heap.size 73 3 (.slice (some ⟨w.heap.size, 0, none⟩) k k) k (rowM L) by
    have e : rowM (L.take k ++ List.replicate (k - k) (0, 0, false)) = rowM L := by rw [List.take_of_length_le (by rw [HX.out]; omega), Nat.sub_self]; simp
    rw [e] at hown; exact hown)
   clear hown
   go_wp2
   go_ret
   exact ⟨_, _, rfl, Nat.le_refl _, R.out, hb⟩

set_option maxRecDepth 100000 in
set_option maxHeartbeats 1000000 in
theorem eqDoms (w : World) (A A' : Option Addr) (n cap cap' B B' : Nat) (L : List Dm) (hx : L.length = n) (hl : (n : Int) ≤ 9223372036854775807) (h1 : RowM w B A L) (h2 : RowM w B' A' L) (hB : B ≤ w.heap.size) (hB' : B' ≤ w.heap.size) :
  Calls Tryz.prog 27 #[.slice A n cap, .slice A' n cap'] w (Bol true w) := by
 obtain ⟨b, off, hA, hc⟩ := h1.at
 obtain ⟨b', off', hA', hc'⟩ := h2.at
 have H1 := Lib.hid hA
 have H2 := Lib.hid hA'
 have H3 := Lib.hid hc
 have H4 := Lib.hid hc'
 have HX := Lib.hid hx
 clear hA hA' hc hc' h1 h2 hx
 have hnn : (((n : Nat) : Int) != ((n : Nat) : Int)) = false := by simp
 go_enter Tryz.func27, Tryz.ntmps27
 go_wp2_with fail
 go_loopw [5] (fun i wr => ∃ k : Nat, k ≤ n ∧ i = .int .i64 k ∧ Below w.heap.size w wr) (fun i _ => n - (intOf i).toNat)
 case atStart => exact ⟨0, Nat.zero_le _, rfl, Below.refl _ _⟩
 case round =>
  obtain ⟨k, hk, rfl, hb⟩ := hrel
  have hbs := hb.size
  by_cases hlt : k < n
  ·have hkx : k < L.length := by have := HX.out; omega
   obtain ⟨rfl, hbw⟩ := H1.out (by omega)
   obtain ⟨rfl, hbw'⟩ := H2.out (by omega)
   obtain ⟨c1, c2, c3⟩ := H3.out k hkx
   obtain ⟨d1, d2, d3⟩ := H4.out k hkx
   have c1' := (hb.cell (p := ⟨b, off + k * 3, none⟩) (by show b < _; omega)).trans c1
   have c2' := (hb.cell (p := ⟨b, off + k * 3 + 1, none⟩) (by show b < _; omega)).trans c2
   have c3' := (hb.cell (p := ⟨b, off + k * 3 + 2, none⟩) (by show b < _; omega)).trans c3
   have d1' := (hb.cell (p := ⟨b', off' + k * 3, none⟩) (by show b' < _; omega)).trans d1
   have d2' := (hb.cell (p := ⟨b', off' + k * 3 + 1, none⟩) (by show b' < _; omega)).trans d2
   have d3' := (hb.cell (p := ⟨b', off' + k * 3 + 2, none⟩) (by show b' < _; omega)).trans d3
   clear c1 c2 c3 d1 d2 d3
   generalize L[k] = d at c1' c2' c3' d1' d2' d3'
   obtain ⟨x, y, bb⟩ := d
   simp only at c1' c2' c3' d1' d2' d3'
   have hB1 : b < wr.heap.size := by omega
   have hB2 : b' < wr.heap.size := by omega
   go_wp2_with fail
   go_region_held3 (fun w' => w'.cell? ⟨b, off + k * 3, none⟩ = some (.int .i64 x) ∧ w'.cell? ⟨b, off + k * 3 + 1, none⟩ = some (.int .i64 y) ∧ w'.cell? ⟨b, off + k * 3 + 2, none⟩ = some (.bool bb) ∧ w'.cell? ⟨b', off' + k * 3, none⟩ = some (.int .i64 x) ∧ w'.cell? ⟨b', off' + k * 3 + 1, none⟩ = some (.int .i64 y) ∧ w'.cell? ⟨b', off' + k * 3 + 2, none⟩ = some (.bool bb))
    (first | go_keep | exact ⟨(hbx.cell (by simpa using hB1)).trans c1', (hbx.cell (by simpa using hB1)).trans c2', (hbx.cell (by simpa using hB1)).trans c3', (hbx.cell (by simpa using hB2)).trans d1', (hbx.cell (by simpa using hB2)).trans d2', (hbx.cell (by simpa using hB2)).trans d3'⟩)
    (first | (go_at_call 57; refine (eqDominoSame x y bb _).mono ?_; rintro e wx ⟨rfl, hbx⟩))
   have hb2 : Below w.heap.size w wx := hb.drew.trans (hbx.mono hbs)
   clear c1' c2' c3' d1' d2' d3' hbx
   go_wp2
   go_roundw
   case rel => exact ⟨k + 1, by omega, by go_num, hb2⟩
   case measure => (simp [intOf] <;> omega)
  ·go_wp2
   go_ret
   exact mkBol rfl hb
end Go.Proofs.YtmenmepdmojnfaaGreatDoor.Til

namespace Go.Proofs.YtmenmepdmojnfaaGreatDoor.Til
set_option linter.unusedVariables false
set_option linter.unusedSimpArgs false
open Go.RowKit Go.Proofs.YtmenmepdmojnfaaGreatDoor.Dms Go.Joins
open Go.Proofs.YtmenmepdmojnfaaGreatDoor.Reg hiding Yes add_none

def by3 (m : Nat) : Bool := decide (((m : Nat) : Int) % 3 = 0)
def mkM (k j : Nat) : Dm := (((k + 3 * j : Nat) : Int), ((k + 3 * j + 1 : Nat) : Int), by3 (k + 3 * j + 2))
def marksM (k n : Nat) : List Dm := (List.range n).map (mkM k)
theorem marksM_length (k n : Nat) : (marksM k n).length = n := by unfold marksM; simp
theorem marksM_step (k j n : Nat) (L : List Dm) (hL : L.length = n) (hj : j < n) :
  (((rowM (marksM k j ++ L.drop j)).set (j * 3) (.int .i64 ((k + 3 * j : Nat) : Int))).set (j * 3 + 1) (.int .i64 ((k + 3 * j + 1 : Nat) : Int))).set (j * 3 + 2) (.bool (by3 (k + 3 * j + 2))) = rowM (marksM k (j + 1) ++ L.drop (j + 1)) := by
 rw [List.drop_eq_getElem_cons (by omega)]
 have h := rowM_put (marksM k j) L[j] (mkM k j) (L.drop (j + 1)) j (marksM_length k j)
 unfold mkM at h
 simp only at h
 rw [h]
 congr 1
 unfold marksM
 rw [List.range_succ, List.map_append, List.append_assoc]
 rfl

set_option maxRecDepth 100000 in
set_option maxHeartbeats 1000000 in
theorem markDoms (w : World) (base hi k n cap : Nat) (A : Option Addr) (L : List Dm) (hn : ((k + 3 * n : Nat) : Int) ≤ 10000000) (hr : RowIn w base hi 73 3 (.slice A n cap) n (rowM L)) :
  Calls Tryz.prog 29 #[.slice A n cap, .int .i64 (k : Int)] w fun e w' => e = .returned (.int .i64 ((k + 3 * n : Nat) : Int)) ∧ RowIn w' base hi 73 3 (.slice A n cap) n (rowM (marksM k n)) ∧ Apart base hi w w' := by
 have hx : L.length = n := by have := hr.1.1; rw [rowM_length] at this; omega
 have HX := Lib.hid hx
 have HN := Lib.hid hn
 have HH := Lib.hid hr.2
 have HO := Lib.hid hr.1
 clear hx hr hn
 go_enter Tryz.func29, Tryz.ntmps29
 go_wp2_with fail
 go_loopw [1, 5] (fun m i wr => ∃ j : Nat, j ≤ n ∧ i = .int .i64 j ∧ m = .int .i64 ((k + 3 * j : Nat) : Int) ∧ wr.ownsRow base 73 3 (.slice A n cap) n (rowM (marksM k j ++ L.drop j)) ∧ Apart base hi w wr) (fun _ i _ => n - (intOf i).toNat)
 case atStart => exact ⟨0, Nat.zero_le _, rfl, rfl, by simpa [marksM] using HO.out, Apart.refl _ _ _⟩
 case round =>
  obtain ⟨j, hj, rfl, rfl, hown, hb⟩ := hrel
  have hm : ((k + 3 * j : Nat) : Int) ≤ 10000000 := by have := HN.out; omega
  by_cases hlt : j < n
  ·obtain ⟨g, c, hv, hg1, hg2⟩ := hown.form (by omega)
   injection hv with hA hn1 hc1
   subst hA
   subst hc1
   have hu : ∀ m, m < n * 3 → ∃ u, wr.cell? ⟨g, m, none⟩ = some u := fun m hm => by
    have hlen := hown.1
    rw [hown.cellAt m (by omega)]; exact ⟨_, List.getElem?_eq_getElem (by omega)⟩
   obtain ⟨u0, hu0⟩ := hu (j * 3) (by omega)
   obtain ⟨u1, hu1⟩ := hu (j * 3 + 1) (by omega)
   obtain ⟨u2, hu2⟩ := hu (j * 3 + 2) (by omega)
   have hf0 := hown.frozenAt (j * 3)
   have hf1 := hown.frozenAt (j * 3 + 1)
   have hf2 := hown.frozenAt (j * 3 + 2)
   obtain ⟨hst, _⟩ := hown.stored (j * 3) (.int .i64 ((k + 3 * j : Nat) : Int))
   obtain ⟨hst, _⟩ := hst.stored (j * 3 + 1) (.int .i64 ((k + 3 * j + 1 : Nat) : Int))
   obtain ⟨hst, _⟩ := hst.stored (j * 3 + 2) (.bool (by3 (k + 3 * j + 2)))
   rw [marksM_step k j n L HX.out hlt] at hst
   have hb3 := ((hb.setCell (p := ⟨g, j * 3, none⟩) hg1 (HH.out g rfl) (.int .i64 ((k + 3 * j : Nat) : Int))).setCell (p := ⟨g, j * 3 + 1, none⟩) hg1 (HH.out g rfl) (.int .i64 ((k + 3 * j + 1 : Nat) : Int))).setCell (p := ⟨g, j * 3 + 2, none⟩) hg1 (HH.out g rfl) (.bool (by3 (k + 3 * j + 2)))
   have hk2 : ((k + 3 * (j + 1) : Nat) : Int) = ((k + 3 * j : Nat) : Int) + 3 := by omega
   have e1 : ((k + 3 * j + 1 : Nat) : Int) = ((k + 3 * j : Nat) : Int) + 1 := by omega
   have e2 : by3 (k + 3 * j + 2) = ((((k + 3 * j : Nat) : Int) + 1 + 1) % 3 == 0) := by unfold by3; rw [Bool.eq_iff_iff]; simp only [decide_eq_true_eq, beq_iff_eq]; omega
   rw [e2, e1] at hst hb3
   have R := Lib.hid hst
   have HB := Lib.hid hb3
   have HK2 := Lib.hid hk2
   have hm0 : 0 ≤ ((k + 3 * j : Nat) : Int) := by omega
   have hnb : (n : Int) ≤ 10000000 := by have := HN.out; omega
   generalize ((k + 3 * j : Nat) : Int) = m at hm R HB HK2 hm0
   clear hown hst hb3 hb hu hk2 e1 e2
   go_wp2
   go_roundw
   case rel => exact ⟨j + 1, by omega, by go_num, by rw [HK2.out]; go_num, R.out, HB.out⟩
   case measure => (simp [intOf] <;> omega)
  ·obtain rfl : j = n := by omega
   have R := Lib.hid (show wr.ownsRow base 73 3 (.slice A j cap) j (rowM (marksM k j)) by
    have e : marksM k j ++ L.drop j = marksM k j := by rw [List.drop_eq_nil_of_le (by rw [HX.out]; omega), List.append_nil]
    rw [e] at hown; exact hown)
   clear hown
   go_wp2
   go_ret
   exact ⟨by go_num, ⟨R.out, HH.out⟩, hb⟩
theorem markDomsN (w : World) (base hi k n cap : Nat) (A : Option Addr) (L : List Dm) (k0 m : Int) (hk : k0 = (k : Int)) (hm : m = ((k + 3 * n : Nat) : Int)) (hn : m ≤ 10000000) (hr : RowIn w base hi 73 3 (.slice A n cap) n (rowM L)) :
  Calls Tryz.prog 29 #[.slice A n cap, .int .i64 k0] w fun e w' => e = .returned (.int .i64 m) ∧ RowIn w' base hi 73 3 (.slice A n cap) n (rowM (marksM k n)) ∧ Apart base hi w w' := by
 subst hm; subst hk
 exact markDoms w base hi k n cap A L hn hr
end Go.Proofs.YtmenmepdmojnfaaGreatDoor.Til

namespace Go.Proofs.YtmenmepdmojnfaaGreatDoor.Dss
set_option linter.unusedVariables false
set_option linter.unusedSimpArgs false
open Go.RowKit Go.Proofs.YtmenmepdmojnfaaGreatDoor.Base Go.Proofs.YtmenmepdmojnfaaGreatDoor.Dms Go.Joins
open Go.Proofs.YtmenmepdmojnfaaGreatDoor.Reg hiding Yes add_none

def blk (a : Option Addr) : Option Nat := a.map (·.block)
theorem ownBlock_slice (a : Option Addr) (n c : Nat) : (Value.slice a n c).ownBlock = blk a := by cases a <;> rfl
def Dif (a b : Option Addr) : Prop := ∀ g, blk a = some g → blk b ≠ some g
theorem Dif.symm {a b : Option Addr} (h : Dif a b) : Dif b a := fun g h1 h2 => h g h2 h1
theorem dif_types {W : World} {lo lo' e e' size size' n n' : Nat} {A A' : Option Addr} {c c' m m' : Nat} {xs xs' : List Value} (h : W.ownsRow lo e size (.slice A m c) n xs) (h' : W.ownsRow lo' e' size' (.slice A' m' c') n' xs') (hne : e ≠ e') : Dif A A' := by
 intro g h1 h2
 rcases h.2 with ⟨hv, _⟩ | ⟨g1, cap1, cur1, hv, _, hg1, _⟩
 ·injection hv with hA; subst hA; cases h1
 ·injection hv with hA; subst hA
  rcases h'.2 with ⟨hv', _⟩ | ⟨g2, cap2, cur2, hv', _, hg2, _⟩
  ·injection hv' with hA'; subst hA'; cases h2
  ·injection hv' with hA'; subst hA'
   simp [blk] at h1 h2
   subst h1; subst h2
   rw [hg1] at hg2
   injection hg2 with hg2
   injection hg2 with _ hg2
   exact hne hg2
def outs (h : Nat) (S : List (Option Addr × Nat)) : List Value := S.map fun s : Option Addr × Nat => Value.slice s.1 h s.2
theorem outs_length (h : Nat) (S : List (Option Addr × Nat)) : (outs h S).length = S.length := by unfold outs; simp
theorem outs_at {h : Nat} {S : List (Option Addr × Nat)} {i : Nat} {s : Option Addr × Nat} (hs : S[i]? = some s) : (outs h S)[i]? = some (.slice s.1 h s.2) := by unfold outs; rw [List.getElem?_map, hs]; rfl
def Ins (W : World) (lo hi h : Nat) (L : List (List Dm)) (S : List (Option Addr × Nat)) : Prop :=
 S.length = L.length ∧ (∀ (i : Nat) (s : Option Addr × Nat) (x : List Dm), S[i]? = some s → L[i]? = some x → RowIn W lo hi 73 3 (.slice s.1 h s.2) h (rowM x)) ∧ S.Pairwise (fun s t : Option Addr × Nat => Dif s.1 t.1)
def SSl (W : World) (lo hi : Nat) (A : Option Addr) (m cap h : Nat) (L : List (List Dm)) (S : List (Option Addr × Nat)) : Prop :=
 RowIn W lo hi 27 1 (.slice A m cap) m (outs h S) ∧ Ins W lo hi h L S
def SSIn (W : World) (lo hi : Nat) (A : Option Addr) (m cap h : Nat) (L : List (List Dm)) : Prop := ∃ S, SSl W lo hi A m cap h L S
theorem SSl.length {W : World} {lo hi m cap h : Nat} {A : Option Addr} {L : List (List Dm)} {S : List (Option Addr × Nat)} (k : SSl W lo hi A m cap h L S) : L.length = m ∧ S.length = m := by
 have h1 := k.1.1.1
 rw [outs_length] at h1
 have h2 := k.2.1
 omega
theorem Ins.nil (W : World) (lo hi h : Nat) : Ins W lo hi h [] [] := ⟨rfl, fun i s x hs => by simp at hs, List.Pairwise.nil⟩
theorem RowIn.wide {W : World} {lo hi lo' hi' e size n : Nat} {v : Value} {xs : List Value} (h : RowIn W lo hi e size v n xs) (h1 : lo' ≤ lo) (h2 : hi ≤ hi') : RowIn W lo' hi' e size v n xs :=
 ⟨own_base h.1 h1, fun g hg => by have := h.2 g hg; omega⟩
theorem Ins.wide {W : World} {lo hi lo' hi' h : Nat} {L : List (List Dm)} {S : List (Option Addr × Nat)} (k : Ins W lo hi h L S) (h1 : lo' ≤ lo) (h2 : hi ≤ hi') : Ins W lo' hi' h L S :=
 ⟨k.1, fun i s x hs hx => RowIn.wide (k.2.1 i s x hs hx) h1 h2, k.2.2⟩
theorem Ins.on {W W' : World} {lo hi h : Nat} {L : List (List Dm)} {S : List (Option Addr × Nat)} (k : Ins W lo hi h L S) (hb : Below W.heap.size W W') : Ins W' lo hi h L S :=
 ⟨k.1, fun i s x hs hx => (k.2.1 i s x hs hx).on hb, k.2.2⟩
theorem SSIn.on {W W' : World} {lo hi m cap h : Nat} {A : Option Addr} {L : List (List Dm)} (k : SSIn W lo hi A m cap h L) (hb : Below W.heap.size W W') : SSIn W' lo hi A m cap h L := by
 obtain ⟨S, k1, k2⟩ := k
 exact ⟨S, k1.on hb, k2.on hb⟩
theorem SSIn.wide {W : World} {lo hi lo' hi' m cap h : Nat} {A : Option Addr} {L : List (List Dm)} (k : SSIn W lo hi A m cap h L) (h1 : lo' ≤ lo) (h2 : hi ≤ hi') : SSIn W lo' hi' A m cap h L := by
 obtain ⟨S, k1, k2⟩ := k
 exact ⟨S, RowIn.wide k1 h1 h2, k2.wide h1 h2⟩
theorem rows_dif {W : World} {lo hi lo' hi' e e' size size' n n' m m' c c' : Nat} {A A' : Option Addr} {xs xs' : List Value} (h : RowIn W lo hi e size (.slice A m c) n xs) (h' : RowIn W lo' hi' e' size' (.slice A' m' c') n' xs') (hd : hi ≤ lo') : Dif A A' := by
 intro g h1 h2
 have a := h.2 g (by rw [ownBlock_slice]; exact h1)
 have b := (h'.1.lt g (by rw [ownBlock_slice]; exact h2)).1
 omega
theorem Ins.app {W : World} {lo hi lo' hi' h : Nat} {L L' : List (List Dm)} {S S' : List (Option Addr × Nat)} (k : Ins W lo hi h L S) (k' : Ins W lo' hi' h L' S') (h1 : lo ≤ hi) (hd : hi ≤ lo') (h2 : lo' ≤ hi') : Ins W lo hi' h (L ++ L') (S ++ S') := by
 refine ⟨by rw [List.length_append, List.length_append, k.1, k'.1], fun i s x hs hx => ?_, ?_⟩
 ·by_cases hi' : i < S.length
  ·rw [List.getElem?_append_left hi'] at hs
   rw [List.getElem?_append_left (by rw [← k.1]; exact hi')] at hx
   exact RowIn.wide (k.2.1 i s x hs hx) (Nat.le_refl _) (by omega)
  ·rw [List.getElem?_append_right (by omega)] at hs
   rw [List.getElem?_append_right (by rw [← k.1]; omega), ← k.1] at hx
   exact RowIn.wide (k'.2.1 _ s x hs hx) (by omega) (Nat.le_refl _)
 ·rw [List.pairwise_append]
  refine ⟨k.2.2, k'.2.2, fun s hs t ht => ?_⟩
  obtain ⟨i, hi1, e1⟩ := List.getElem_of_mem hs
  obtain ⟨j, hj1, e2⟩ := List.getElem_of_mem ht
  have r1 := k.2.1 i s _ (by rw [List.getElem?_eq_getElem hi1, e1]) (List.getElem?_eq_getElem (by rw [← k.1]; exact hi1))
  have r2 := k'.2.1 j t _ (by rw [List.getElem?_eq_getElem hj1, e2]) (List.getElem?_eq_getElem (by rw [← k'.1]; exact hj1))
  exact rows_dif r1 r2 hd
theorem Ins.one {W : World} {lo hi h c : Nat} {A : Option Addr} {x : List Dm} (k : RowIn W lo hi 73 3 (.slice A h c) h (rowM x)) : Ins W lo hi h [x] [(A, c)] := by
 refine ⟨rfl, fun i s y hs hy => ?_, by simp⟩
 cases i with
 | zero => simp at hs hy; subst hs; subst hy; exact k
 | succ i => simp at hs

def RowSS (w : World) (B : Nat) (A : Option Addr) (m h : Nat) (L : List (List Dm)) : Prop :=
 ∃ (b : Nat) (S : List (Option Addr × Nat)), S.length = L.length ∧ (0 < m → A = some ⟨b, 0, none⟩ ∧ b < B) ∧ ∀ (i : Nat) (s : Option Addr × Nat) (x : List Dm), S[i]? = some s → L[i]? = some x → w.cell? ⟨b, i, none⟩ = some (.slice s.1 h s.2) ∧ RowM w B s.1 x
theorem ss_row {W : World} {lo hi m cap h : Nat} {A : Option Addr} {L : List (List Dm)} (k : SSIn W lo hi A m cap h L) : RowSS W W.heap.size A m h L := by
 obtain ⟨S, k⟩ := k
 have hl := k.length
 by_cases h0 : 0 < m
 ·obtain ⟨g, c, hv, _, hlt⟩ := k.1.1.form (by omega)
  injection hv with hA
  subst hA
  refine ⟨g, S, k.2.1, fun _ => ⟨rfl, hlt⟩, fun i s x hs hx => ⟨?_, rowM_own (k.2.2.1 i s x hs hx).1⟩⟩
  have := k.1.1.cells (g := g) rfl i _ (outs_at hs)
  rwa [Base.add_plain] at this
 ·refine ⟨0, S, k.2.1, fun q => by omega, fun i s x hs hx => ?_⟩
  have := (List.getElem?_eq_some_iff.1 hs).1
  omega
theorem RowSS.below {w w' : World} {B B' : Nat} {A : Option Addr} {m h : Nat} {L : List (List Dm)} (k : RowSS w B A m h L) (hm : L.length = m) (hb : Below B' w w') (hB : B ≤ B') : RowSS w' B A m h L := by
 obtain ⟨b, S, h1, h2, h3⟩ := k
 refine ⟨b, S, h1, h2, fun i s x hs hx => ?_⟩
 obtain ⟨a, c⟩ := h3 i s x hs hx
 have h0 : 0 < m := by have := (List.getElem?_eq_some_iff.1 hx).1; omega
 exact ⟨(hb.cell (p := ⟨b, i, none⟩) (by show b < _; have := (h2 h0).2; omega)).trans a, c.below hb hB⟩

end Go.Proofs.YtmenmepdmojnfaaGreatDoor.Dss

namespace Go.Proofs.YtmenmepdmojnfaaGreatDoor.Til
set_option linter.unusedVariables false
set_option linter.unusedSimpArgs false
open Go.RowKit Go.Proofs.YtmenmepdmojnfaaGreatDoor.Cell Go.Proofs.YtmenmepdmojnfaaGreatDoor.Dom Go.Proofs.YtmenmepdmojnfaaGreatDoor.Dms Go.Joins

def Bc (w : World) (x y : Int) (W : World) : Prop := Below w.heap.size w W ∧ At2 W w.heap.size x y
theorem bc_start (x y : Int) (w : World) : Bc w x y (w.alloc (.cells #[.int .i64 x, .int .i64 y] 67)) := ⟨below_alloc1 w _, At2.new w x y⟩
theorem Bc.on {w W W' : World} {x y : Int} (h : Bc w x y W) (hb : Below W.heap.size W W') : Bc w x y W' := ⟨h.1.trans (hb.mono h.1.size), h.2.on hb⟩
def Miss (L : List Dm) (x y : Int) (k : Nat) : Prop := ∀ j e, j < k → L[j]? = some e → covM e x y = false
theorem Miss.zero (L : List Dm) (x y : Int) : Miss L x y 0 := fun j e h => by omega
theorem Miss.succ {L : List Dm} {x y : Int} {k : Nat} (h : Miss L x y k) {d : Dm} (hd : L[k]? = some d) (hc : covM d x y = false) : Miss L x y (k + 1) := by
 intro j e hj he
 by_cases hjk : j = k
 ·subst hjk; rw [hd] at he; injection he with he; subst he; exact hc
 ·exact h j e (by omega) he
theorem Miss.hit {L : List Dm} {x y : Int} {k : Nat} (h : Miss L x y k) {d : Dm} (hd : L[k]? = some d) (hc : covM d x y = true) : atI L x y = (k : Int) := atI_hit h hd hc
theorem Miss.all {L : List Dm} {x y : Int} (h : Miss L x y L.length) : atI L x y = -1 := atI_miss h

set_option maxRecDepth 100000 in
set_option maxHeartbeats 1000000 in
theorem sDominoAt (w : World) (A : Option Addr) (n cap B : Nat) (L : List Dm) (hL : L.length = n) (hn : (n : Int) ≤ 9223372036854775807) (h : RowM w B A L) (hB : B ≤ w.heap.size) (x y : Int) :
  Calls Tryz.prog 125 #[.slice A n cap, .agg #[.int .i64 x, .int .i64 y]] w (Num (atI L x y) w) := by
 obtain ⟨b0, off, h1, h2⟩ := h.at
 have HA := Lib.hid (fun hp => h1 hp)
 have HC := Lib.hid h2
 have HL := Lib.hid hL
 have HB := Lib.hid hB
 have HS := Lib.hid (bc_start x y w)
 clear h h1 h2 hL hB
 go_enter Tryz.func125, Tryz.ntmps125
 go_wp2_with fail
 go_loopw [5] (fun i wr => ∃ j : Nat, j ≤ n ∧ i = .int .i64 j ∧ Bc w x y wr ∧ Hid (Miss L x y j)) (fun i _ => n - (intOf i).toNat)
 case atStart => exact ⟨0, Nat.zero_le _, rfl, HS.out, Lib.hid (Miss.zero _ _ _)⟩
 case round =>
  clear HS
  obtain ⟨j, hj, rfl, hT, hM⟩ := hrel
  have hbs := hT.1.size
  by_cases hlt : j < n
  ·have hjL : j < L.length := by have := HL.out; omega
   obtain ⟨rfl, hbB⟩ := HA.out (by omega)
   obtain ⟨c0, c1, c2⟩ := HC.out j hjL
   have hbw : b0 < w.heap.size := by have := HB.out; omega
   have c0 := (hT.1.cell (p := ⟨b0, off + j * 3, none⟩) hbw).trans c0
   have c1 := (hT.1.cell (p := ⟨b0, off + j * 3 + 1, none⟩) hbw).trans c1
   have c2 := (hT.1.cell (p := ⟨b0, off + j * 3 + 2, none⟩) hbw).trans c2
   have HD := Lib.hid (List.getElem?_eq_getElem (l := L) hjL)
   generalize L[j] = d at c0 c1 c2 HD
   obtain ⟨u, v, b⟩ := d
   simp only at c0 c1 c2
   have HO := Lib.hid (fun W => sDominoOk u v b W)
   have HU := Lib.hid (fun hd W => sCellsUnder_ok u v b hd W)
   have HK := Lib.hid (show covM (u, v, b) x y = (domB u v b && (eqB x y u v || eqB x y (sx u b) (sy v b))) from rfl)
   generalize domB u v b = p at HO HU HK
   generalize sx u b = m at HU HK
   generalize sy v b = q at HU HK
   have HT := Lib.hid hT
   go_wp2_with fail
   refine (HO.out _).mono ?_
   rintro e w1 ⟨rfl, hb1⟩
   have T1 := HT.out.on hb1
   clear HO HT hT hbs
   cases p with
   | false =>
    have HM := Lib.hid (hM.out.succ HD.out (by rw [HK.out]; rfl))
    clear c0 c1 c2 HU HK hM HD hb1
    go_wp2
    go_roundw
    case rel => exact ⟨j + 1, by omega, by go_num, T1, HM⟩
    case measure => (simp [intOf] <;> omega)
   | true =>
    have hwr : b0 < wr.heap.size := World.block_lt_of_cell? _ _ c0
    have c0 := (hb1.cell (p := ⟨b0, off + j * 3, none⟩) hwr).trans c0
    have c1 := (hb1.cell (p := ⟨b0, off + j * 3 + 1, none⟩) hwr).trans c1
    have c2 := (hb1.cell (p := ⟨b0, off + j * 3 + 2, none⟩) hwr).trans c2
    clear hb1
    go_wp2_with fail
    refine (HU.out trivial _).mono ?_
    rintro e w2 ⟨rfl, hb2⟩
    have T2 := T1.on hb2
    clear c0 c1 c2 T1 hb2 HU
    go_upto_region 6 with fail
    obtain ⟨k1, k2, k3⟩ := at2_two w2 u v m q
    have T3 := T2.on k3
    generalize (w2.alloc (.cells #[.int .i64 u, .int .i64 v] 67)).alloc (.cells #[.int .i64 m, .int .i64 q] 67) = W at k1 k2 T3 ⊢
    have c0 := k1.c0
    have c1 := k1.c1
    have c2 := k2.c0
    have c3 := k2.c1
    have c4 := T3.2.c0
    have c5 := T3.2.c1
    have HY := Lib.hid (fun (hh : (u = x ∧ v = y) ∨ (m = x ∧ q = y)) => hM.out.hit HD.out (by rw [HK.out]; simp [eqB_iff]; rcases hh with ⟨rfl, rfl⟩ | ⟨rfl, rfl⟩ <;> simp))
    have HN := Lib.hid (fun (hh : ¬ ((u = x ∧ v = y) ∨ (m = x ∧ q = y))) => hM.out.succ HD.out (by rw [HK.out, Bool.true_and, Bool.eq_false_iff]; intro hc; simp only [Bool.or_eq_true, eqB_iff] at hc; exact hh (by omega)))
    have HT3 := Lib.hid T3
    clear k1 k2 k3 T2 T3 HK hM HD
    go_wp2
    all_goals first
     | (go_ret; rw [HY.out (by omega)]; exact ⟨rfl, HT3.out.1⟩)
     | (refine ⟨⟨j + 1, by omega, by go_num, HT3.out, Lib.hid (HN.out (by omega))⟩, ?_⟩; simp [intOf] <;> omega)
  ·obtain rfl : j = n := by omega
   have HE := Lib.hid (show atI L x y = -1 from Miss.all (by rw [HL.out]; exact hM.out))
   go_wp2
   go_ret
   rw [HE.out]
   exact ⟨rfl, hT.1⟩
end Go.Proofs.YtmenmepdmojnfaaGreatDoor.Til
