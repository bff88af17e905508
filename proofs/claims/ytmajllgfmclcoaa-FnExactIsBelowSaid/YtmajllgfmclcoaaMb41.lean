/- TilM in one text. -/
import Derived.Test.YtmajllgfmclcoaaMb04
import Derived.Test.YtmajllgfmclcoaaMb13
import Derived.Test.YtmajllgfmclcoaaMb10
import Derived.OpenShut
import Derived.ChangeSlices
import Derived.ProofKit
import Derived.Laws.OwnMore
import Derived.Deep.RegionHeld3

namespace Go.Proofs.Ytmajllgfmclcoaa.Til
set_option linter.unusedVariables false
set_option linter.unusedSimpArgs false
open Go.RowKit Go.Proofs.Ytmajllgfmclcoaa.Cell Go.Proofs.Ytmajllgfmclcoaa.Dom Go.Proofs.Ytmajllgfmclcoaa.Dms Go.Joins
open Go.Proofs.Ytmajllgfmclcoaa.Reg hiding Yes

theorem domInfo : (Try.prog.info? 41).map (fun i => (i.zero, i.size, i.bytes)) = some (some (.agg #[.int .i64 0, .int .i64 0, .bool false]), 3, 24) := by kernel_rfl
theorem made3 (n : Nat) : (madeCells #[.int .i64 0, .int .i64 0, .bool false] (n * 3)).toList = rowM (List.replicate n (0, 0, false)) := by
 apply List.ext_getElem?
 intro j
 by_cases hj : j < n * 3
 ·have h := rowM_at (List.replicate n (0, 0, false)) (j / 3) (0, 0, false) (by rw [List.getElem?_replicate]; simp; omega)
  obtain ⟨h0, h1, h2⟩ := h
  simp only [madeCells, Array.toList_map, Array.toList_range, List.getElem?_map, List.getElem?_range hj, Option.map_some]
  have hc : j = j / 3 * 3 ∨ j = j / 3 * 3 + 1 ∨ j = j / 3 * 3 + 2 := by omega
  rcases hc with e | e | e
  ·rw [show j % (#[Value.int .i64 0, .int .i64 0, .bool false] : Array Value).size = 0 by show j % 3 = 0; omega]
   rw [← e] at h0; rw [h0]; rfl
  ·rw [show j % (#[Value.int .i64 0, .int .i64 0, .bool false] : Array Value).size = 1 by show j % 3 = 1; omega]
   rw [← e] at h1; rw [h1]; rfl
  ·rw [show j % (#[Value.int .i64 0, .int .i64 0, .bool false] : Array Value).size = 2 by show j % 3 = 2; omega]
   rw [← e] at h2; rw [h2]; rfl
 ·rw [List.getElem?_eq_none (by simp [madeCells]; omega), List.getElem?_eq_none (by rw [rowM_length, List.length_replicate]; omega)]

set_option maxHeartbeats 400000 in
theorem szDominoS (A : Option Addr) (n cap : Nat) (left : Int) (h0 : 0 ≤ left) (h1 : left ≤ 1048576) (hn : (n : Int) ≤ 9223372036854775807) (w : World) :
  Calls Try.prog 6 #[.slice A n cap, .int .i64 left] w fun e w' => e = .returned (.int .i64 (szR left n)) ∧ w' = w := by
 by_cases h : (n : Int) ≤ left
 ·have HE := Lib.hid (show szR left n = left - n by unfold szR; rw [if_pos h])
  have h2 : ¬ left - (n : Int) < 0 := by omega
  go_enter Try.func6, Try.ntmps6
  go_wp2
  go_ret
  exact ⟨by rw [HE.out]; rfl, rfl⟩
 ·have HE := Lib.hid (show szR left n = -1 by unfold szR; rw [if_neg h])
  have h2 : left - (n : Int) < 0 := by omega
  go_enter Try.func6, Try.ntmps6
  go_wp2
  go_ret
  exact ⟨by rw [HE.out]; rfl, rfl⟩

def DmPost (L : List Dm) (n : Nat) (w : World) (e : Ending) (w' : World) : Prop :=
 ∃ A cap, e = .returned (.slice A n cap) ∧ n ≤ cap ∧ w'.ownsRow w.heap.size 41 3 (.slice A n cap) n (rowM L) ∧ Below w.heap.size w w'
theorem dm_step (L M : List Dm) (n k : Nat) (hx : L.length = n) (hk : k < n) :
  (((rowM (L.take k ++ List.replicate (n - k) (0, 0, false))).set (k * 3) (.int .i64 L[k].1)).set (k * 3 + 1) (.int .i64 L[k].2.1)).set (k * 3 + 2) (.bool L[k].2.2) = rowM (L.take (k + 1) ++ List.replicate (n - (k + 1)) (0, 0, false)) := by
 rw [show n - k = (n - (k + 1)) + 1 by omega, List.replicate_succ, rowM_put (L.take k) (0, 0, false) L[k] _ k (by rw [List.length_take]; omega), List.take_succ_eq_append_getElem (by omega), List.append_assoc]
 rfl

set_option maxRecDepth 100000 in
set_option maxHeartbeats 1000000 in
theorem toDominoS (w : World) (A : Option Addr) (n cap B : Nat) (L : List Dm) (hx : L.length = n) (hn : (n : Int) ≤ 1048576) (h : RowM w B A L) (hB : B ≤ w.heap.size) :
  Calls Try.prog 9 #[.slice A n cap] w (DmPost L n w) := by
 obtain ⟨i0, hi, hz0, hz1, hz2⟩ := info_parts domInfo
 obtain ⟨b, off, hA, hc⟩ := h.at
 have HA := Lib.hid hA
 have HC := Lib.hid hc
 have HX := Lib.hid hx
 clear hA hc hx h
 go_enter Try.func9, Try.ntmps9
 go_wp2_with (first
  | (at_make; refine wpList_make_full _ rfl _ _ 31 rfl w.heap.size 41 i0 (.agg #[.int .i64 0, .int .i64 0, .bool false]) 3 Try.underlying31 hi hz0 hz1 .i64 .i64 (n : Int) (n : Int) n rfl rfl rfl rfl (by rw [hz2]; omega) (by unfold maxLen; omega) (by omega) ?_; intro w1 hown1 hg1))
 have hb1 : Below w.heap.size w w1 := (Below.refl _ _).grown hg1 (by omega) (by simp)
 have HO := Lib.hid (show w1.ownsRow w.heap.size 41 3 (.slice (some ⟨w.heap.size, 0, none⟩) n n) n (rowM (L.take 0 ++ List.replicate (n - 0) (0, 0, false))) by
  rw [show (Value.agg #[.int .i64 0, .int .i64 0, .bool false]).cells = #[.int .i64 0, .int .i64 0, .bool false] from rfl, made3] at hown1
  simpa using hown1)
 clear hown1 hg1 hi hz0 hz1 hz2
 go_loopw [4] (fun i wr => ∃ k : Nat, k ≤ n ∧ i = .int .i64 k ∧ wr.ownsRow w.heap.size 41 3 (.slice (some ⟨w.heap.size, 0, none⟩) n n) n (rowM (L.take k ++ List.replicate (n - k) (0, 0, false))) ∧ Below w.heap.size w wr) (fun i _ => n - (intOf i).toNat)
 case atStart => exact ⟨0, Nat.zero_le _, rfl, HO.out, hb1⟩
 case round =>
  clear HO hb1
  obtain ⟨k, hk, rfl, hown, hb⟩ := hrel
  have hbs := hb.size
  by_cases hlt : k < n
  ·have hkx : k < L.length := by have := HX.out; omega
   obtain ⟨rfl, hbw⟩ := HA.out (by omega)
   obtain ⟨c0, c1, c2⟩ := HC.out k hkx
   have c0 := (hb.cell (p := ⟨b, off + k * 3, none⟩) (by show b < _; omega)).trans c0
   have c1 := (hb.cell (p := ⟨b, off + k * 3 + 1, none⟩) (by show b < _; omega)).trans c1
   have c2 := (hb.cell (p := ⟨b, off + k * 3 + 2, none⟩) (by show b < _; omega)).trans c2
   have HST := Lib.hid (dm_step L L n k HX.out hlt)
   generalize L[k] = d at c0 c1 c2 HST
   obtain ⟨x, y, bb⟩ := d
   simp only at c0 c1 c2
   have HOwn := Lib.hid hown
   have HBw := Lib.hid hb
   clear hown hb
   go_wp2_with fail
   refine (toDomino x y bb _).mono ?_
   rintro e w2 ⟨rfl, hb2⟩
   have hown := Reg.own_below HOwn.out hb2 (Nat.le_refl _)
   have hb := HBw.out.trans (hb2.mono hbs)
   have hu : ∀ m, m < n * 3 → ∃ u, w2.cell? ⟨w.heap.size, m, none⟩ = some u := fun m hm => by
    have hlen := hown.1
    rw [hown.cellAt m (by omega)]; exact ⟨_, List.getElem?_eq_getElem (by omega)⟩
   obtain ⟨u0, hu0⟩ := hu (k * 3) (by omega)
   obtain ⟨u1, hu1⟩ := hu (k * 3 + 1) (by omega)
   obtain ⟨u2, hu2⟩ := hu (k * 3 + 2) (by omega)
   have hf0 := hown.frozenAt (k * 3)
   have hf1 := hown.frozenAt (k * 3 + 1)
   have hf2 := hown.frozenAt (k * 3 + 2)
   obtain ⟨hst, _⟩ := hown.stored (k * 3) (.int .i64 x)
   obtain ⟨hst, _⟩ := hst.stored (k * 3 + 1) (.int .i64 y)
   obtain ⟨hst, _⟩ := hst.stored (k * 3 + 2) (.bool bb)
   rw [HST.out] at hst
   have R := Lib.hid hst
   have hb3 := ((hb.setCell (p := ⟨w.heap.size, k * 3, none⟩) (Nat.le_refl _) (.int .i64 x)).setCell (p := ⟨w.heap.size, k * 3 + 1, none⟩) (Nat.le_refl _) (.int .i64 y)).setCell (p := ⟨w.heap.size, k * 3 + 2, none⟩) (Nat.le_refl _) (.bool bb)
   have HB3 := Lib.hid hb3
   clear hown hst hb3 hb c0 c1 c2 hb2 hu HOwn HBw HST
   go_wp2
   go_roundw
   case rel => exact ⟨k + 1, by omega, by go_num, R.out, HB3.out⟩
   case measure => (simp [intOf] <;> omega)
  ·obtain rfl : k = n := by omega
   have R := Lib.hid (show wr.ownsRow w.heap.size 41 3 (.slice (some ⟨w.heap.size, 0, none⟩) k k) k (rowM L) by
    have e : rowM (L.take k ++ List.replicate (k - k) (0, 0, false)) = rowM L := by rw [List.take_of_length_le (by rw [HX.out]; omega), Nat.sub_self]; simp
    rw [e] at hown; exact hown)
   clear hown
   go_wp2
   go_ret
   exact ⟨_, _, rfl, Nat.le_refl _, R.out, hb⟩

set_option maxRecDepth 100000 in
set_option maxHeartbeats 1000000 in
theorem eqDoms (w : World) (A A' : Option Addr) (n cap cap' B B' : Nat) (L : List Dm) (hx : L.length = n) (hl : (n : Int) ≤ 9223372036854775807) (h1 : RowM w B A L) (h2 : RowM w B' A' L) (hB : B ≤ w.heap.size) (hB' : B' ≤ w.heap.size) :
  Calls Try.prog 12 #[.slice A n cap, .slice A' n cap'] w (Bol true w) := by
 obtain ⟨b, off, hA, hc⟩ := h1.at
 obtain ⟨b', off', hA', hc'⟩ := h2.at
 have H1 := Lib.hid hA
 have H2 := Lib.hid hA'
 have H3 := Lib.hid hc
 have H4 := Lib.hid hc'
 have HX := Lib.hid hx
 clear hA hA' hc hc' h1 h2 hx
 have hnn : (((n : Nat) : Int) != ((n : Nat) : Int)) = false := by simp
 go_enter Try.func12, Try.ntmps12
 go_wp2_with fail
 go_loopw [5] (fun i wr => ∃ k : Nat, k ≤ n ∧ i = .int .i64 k ∧ Below w.heap.size w wr) (fun i _ => n - (intOf i).toNat)
 case atStart => exact ⟨0, Nat.zero_le _, rfl, Below.refl _ _⟩
 case round =>
  obtain ⟨k, hk, rfl, hb⟩ := hrel
  have hbs := hb.size
  by_cases hlt : k < n
  ·have hkx : k < L.length := by have := HX.out; omega
   obtain ⟨rfl, hbw⟩ := H1.out (by omega)
   obtain ⟨rfl, hbw'⟩ := H2.out (by omega)
   obtain ⟨c1, c2, c3⟩ := H3.out k hkx
   obtain ⟨d1, d2, d3⟩ := H4.out k hkx
   have c1' := (hb.cell (p := ⟨b, off + k * 3, none⟩) (by show b < _; omega)).trans c1
   have c2' := (hb.cell (p := ⟨b, off + k * 3 + 1, none⟩) (by show b < _; omega)).trans c2
   have c3' := (hb.cell (p := ⟨b, off + k * 3 + 2, none⟩) (by show b < _; omega)).trans c3
   have d1' := (hb.cell (p := ⟨b', off' + k * 3, none⟩) (by show b' < _; omega)).trans d1
   have d2' := (hb.cell (p := ⟨b', off' + k * 3 + 1, none⟩) (by show b' < _; omega)).trans d2
   have d3' := (hb.cell (p := ⟨b', off' + k * 3 + 2, none⟩) (by show b' < _; omega)).trans d3
   clear c1 c2 c3 d1 d2 d3
   generalize L[k] = d at c1' c2' c3' d1' d2' d3'
   obtain ⟨x, y, bb⟩ := d
   simp only at c1' c2' c3' d1' d2' d3'
   have hB1 : b < wr.heap.size := by omega
   have hB2 : b' < wr.heap.size := by omega
   go_wp2_with fail
   go_region_held3 (fun w' => w'.cell? ⟨b, off + k * 3, none⟩ = some (.int .i64 x) ∧ w'.cell? ⟨b, off + k * 3 + 1, none⟩ = some (.int .i64 y) ∧ w'.cell? ⟨b, off + k * 3 + 2, none⟩ = some (.bool bb) ∧ w'.cell? ⟨b', off' + k * 3, none⟩ = some (.int .i64 x) ∧ w'.cell? ⟨b', off' + k * 3 + 1, none⟩ = some (.int .i64 y) ∧ w'.cell? ⟨b', off' + k * 3 + 2, none⟩ = some (.bool bb))
    (first | go_keep | exact ⟨(hbx.cell (by simpa using hB1)).trans c1', (hbx.cell (by simpa using hB1)).trans c2', (hbx.cell (by simpa using hB1)).trans c3', (hbx.cell (by simpa using hB2)).trans d1', (hbx.cell (by simpa using hB2)).trans d2', (hbx.cell (by simpa using hB2)).trans d3'⟩)
    (first | (go_at_call 24; refine (eqDominoSame x y bb _).mono ?_; rintro e wx ⟨rfl, hbx⟩))
   have hb2 : Below w.heap.size w wx := hb.drew.trans (hbx.mono hbs)
   clear c1' c2' c3' d1' d2' d3' hbx
   go_wp2
   go_roundw
   case rel => exact ⟨k + 1, by omega, by go_num, hb2⟩
   case measure => (simp [intOf] <;> omega)
  ·go_wp2
   go_ret
   exact mkBol rfl hb
end Go.Proofs.Ytmajllgfmclcoaa.Til
