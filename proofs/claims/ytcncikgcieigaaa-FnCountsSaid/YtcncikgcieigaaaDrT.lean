/- A region that can be tiled, drawn out of a code. -/
import Derived.Test.YtcncikgcieigaaaDrawR
import Derived.Test.YtcncikgcieigaaaStS
namespace Go.Proofs.Ytcncikgcieigaaa.Tile
set_option linter.unusedVariables false
set_option linter.unusedSimpArgs false
open Go.RowKit Go.Proofs.Ytcncikgcieigaaa.Base Go.Proofs.Ytcncikgcieigaaa.Pure Go.Proofs.Ytcncikgcieigaaa.Cell Go.Proofs.Ytcncikgcieigaaa.Reg Go.Proofs.Ytcncikgcieigaaa.Draw Go.Joins
open Go.Proofs.Ytcncikgcieigaaa.Cnt hiding own_cell
open Go.Proofs.Ytcncikgcieigaaa.Prof hiding below_of_apart

/-- an ending with a region that can be tiled. -/
def DrewT (w : World) (g : Nat) (e : Ending) (w' : World) : Prop :=
  ∃ (ys : List Int) (A2 : Option Addr) (n c2 : Nat), Hid (okR ys ∧ 1 ≤ tilesR ys) ∧ Hid (ys.length = n) ∧ e = .returned (.agg #[.slice A2 n c2]) ∧ w'.ownsRow w.heap.size 3 1 (.slice A2 n c2) n (ints ys) ∧ w.grownBy w' (some g)
/-- the answer's box, the cursor. -/
def Dt (w : World) (B g : Nat) (A : Option Addr) (len cap : Nat) (W : World) : Prop :=
  (Cur W B g A len cap ∧ g < w.heap.size) ∧ w.grownBy W (some g) ∧ w.heap.size + 1 ≤ W.heap.size ∧ W.heap[w.heap.size]? = some (.cells #[.slice none 0 0] 26)
section
variable {w W W' : World} {B g : Nat} {A : Option Addr} {len cap : Nat}
theorem Dt.on (h : Dt w B g A len cap W) (hc : Cur W' B g A len cap) (hg : W.grownBy W' (some g)) : Dt w B g A len cap W' := by
  obtain ⟨⟨_, h1⟩, h2, h3, h4⟩ := h
  have hz := hg.size
  exact ⟨⟨hc, h1⟩, grown_trans h2 hg, by omega, (hg.block w.heap.size (by omega) (fun e => by injection e with e; omega)).trans h4⟩
theorem Dt.later (h : Dt w B g A len cap W) (hb : Below W.heap.size W W') : Dt w B g A len cap W' :=
  h.on (h.1.1.later (grown_below hb none) (by simp) (fun k hk => by cases hk)) (grown_below hb _)
theorem Dt.cell (h : Dt w B g A len cap W) : W.cell? ⟨w.heap.size, 0, none⟩ = some (.slice none 0 0) ∧ W.frozen? ⟨w.heap.size, 0, none⟩ = false := ⟨(cellAt h.2.2.2 0).1.trans rfl, (cellAt h.2.2.2 0).2⟩
theorem tile_end {A2 : Option Addr} {n c2 base : Nat} {ys : List Int} (h : Dt w B g A len cap W) (hb : w.heap.size < base) (ho : W.ownsRow base 3 1 (.slice A2 n c2) n (ints ys)) (hok : Hid (okR ys ∧ 1 ≤ tilesR ys)) (hl : Hid (ys.length = n)) :
    (W.setCell ⟨w.heap.size, 0, none⟩ (.slice A2 n c2)).cell? ⟨w.heap.size, 0, none⟩ = some (.slice A2 n c2) ∧ DrewT w g (.returned (.agg #[.slice A2 n c2])) (W.setCell ⟨w.heap.size, 0, none⟩ (.slice A2 n c2)) := by
  refine ⟨World.cell?_setCell_same (w := W) _ _ h.cell.1, ys, A2, n, c2, hok, hl, rfl, ?_, ?_⟩
  · exact own_base (ownsRow_setCell_below ho (by show w.heap.size < base; omega) _) (by omega)
  · have b := h.2.1
    exact ⟨b.os, b.tape, b.output, by have := b.size; simpa [World.setCell] using this, fun i hi hne => (Below.heap_setCell W _ _ _ (by show i ≠ w.heap.size; omega)).trans (b.block i hi hne)⟩
end
theorem tile_in {ys : List Int} (ho : okR ys) (h : 1 ≤ wrap64 (tiles (gR ys) : Nat) ∧ wrap64 (tiles (gR ys) : Nat) ≤ 300) : okR ys ∧ 1 ≤ tilesR ys := ⟨ho, by rw [tilesR_ok ho]; exact h.1⟩
theorem tile_rect {a b : Int} (ha : 0 ≤ a ∧ a < 2) (hb : 0 ≤ b ∧ b < 3) : okR (rectR (2 + 2 * a) (2 + b)) ∧ 1 ≤ tilesR (rectR (2 + 2 * a) (2 + b)) := by
  have h := rect_some (a := (2 + 2 * a).toNat) (b := (2 + b).toNat) (by omega) (by omega)
  rw [Int.toNat_of_nonneg (by omega), Int.toNat_of_nonneg (by omega)] at h
  exact ⟨rect_ok' (by omega), h.1⟩

set_option maxRecDepth 100000 in
set_option maxHeartbeats 2000000 in
theorem tileRegion (w : World) (B g : Nat) (A : Option Addr) (len cap : Nat) (h0 : Cur w B g A len cap) :
    Calls Try.prog 27 #[.pointer (some ⟨g, 0, none⟩)] w (DrewT w g) := by
  have hgw := h0.lt
  have T0 := Lib.hid (show Dt w B g A len cap (w.alloc (.cells #[.slice none 0 0] 26)) from
    ⟨⟨h0.alloc _, hgw.2⟩, World.grownBy_alloc w _ _, by simp, heap_alloc_new w _⟩)
  have HD := Lib.hid (fun W n (hc : Cur W B g A len cap) => below W B g A len cap n hc)
  have HRg := Lib.hid (fun W (hc : Cur W B g A len cap) => Draw.region W B g A len cap hc)
  clear h0 hgw
  go_enter Try.func27, Try.ntmps27
  go_wp2_with fail
  go_loopw [3, 4] (fun kv _ wr => ∃ k : Nat, k ≤ 6 ∧ kv = .int .i64 (k : Int) ∧ Dt w B g A len cap wr) (fun kv _ _ => 6 - (intOf kv).toNat)
  case atStart => exact ⟨0, by omega, rfl, T0.out⟩
  case round =>
    clear T0
    obtain ⟨k, hk, rfl, T1⟩ := hrel
    by_cases hlt : k < 6
    · go_wp2_with fail
      refine (HRg.out _ T1.1.1).mono ?_
      rintro e w2 ⟨ys, A2, n, c2, ho, hl, rfl, hown, hg, _, hc⟩
      have T2 := T1.on hc hg
      have hz1 := T1.2.2.1
      clear T1 hc hg
      go_upto_region 5 with fail
      have hba := below_alloc1 w2 (.cells #[.slice A2 n c2] 26)
      have hbl := heap_alloc_new w2 (.cells #[.slice A2 n c2] 26)
      have T3 := T2.later hba
      have own3 := own_below hown hba (Nat.le_refl _)
      generalize w2.alloc (.cells #[.slice A2 n c2] 26) = W3 at hbl T3 own3 ⊢
      generalize w2.heap.size = p at hbl ⊢
      have c3 := (cellAt hbl 0).1.trans (show _ = some (Value.slice A2 n c2) from rfl)
      clear hba hown T2
      go_wp2_with fail
      refine (sCount W3 A2 n c2 W3.heap.size ys hl.out ho.out (rowB_own own3) (Nat.le_refl _)).mono ?_
      rintro e w4 ⟨rfl, hb4⟩
      have T4 := T3.later hb4
      have own4 := own_below own3 hb4 (Nat.le_refl _)
      have hbl4 := (hb4.block p (Array.getElem?_eq_some_iff.1 hbl).1).trans hbl
      have c4 := (cellAt hbl4 0).1.trans (show _ = some (Value.slice A2 n c2) from rfl)
      clear c3 hbl T3 own3 hb4 hbl4
      have HTi := Lib.hid (fun h => tile_in (ys := ys) ho.out h)
      generalize wrap64 (tiles (gR ys) : Nat) = t at HTi ⊢
      go_wp2_with fail
      refine (l01In t 1 300 w4).mono ?_
      rintro e w5 ⟨rfl, rfl⟩
      by_cases hin : 1 ≤ t ∧ t ≤ 300
      · rw [inB_of hin]
        have HEnd := Lib.hid (tile_end T4 (by omega) own4 (Lib.hid (HTi.out hin)) hl)
        obtain ⟨cr, fr⟩ := T4.cell
        have hres := HEnd.out.1
        clear own4 T4 hin HTi ho hl
        go_wp2
        exact bodyPost_ret (v := .agg #[.slice A2 n c2]) (by simp [results, Try.results27, go_sem, hres]) rfl HEnd.out.2
      · rw [inB_not hin]
        have HT4 := Lib.hid T4
        clear own4 T4 hin HTi ho hl c4
        go_wp2
        go_roundw
        case rel => exact ⟨k + 1, by omega, by go_num, HT4.out⟩
        case measure => (simp [intOf] <;> omega)
    · go_wp2_with fail
      refine (HD.out _ 2 T1.1.1).mono ?_
      rintro e w2 ⟨a, ha, rfl, hc2, hg2⟩
      have T2 := T1.on hc2 hg2
      clear T1 hc2 hg2
      have ha := ha.2 (by omega)
      go_wp2_with fail
      refine (HD.out _ 3 T2.1.1).mono ?_
      rintro e w3 ⟨b, hb, rfl, hc3, hg3⟩
      have T3 := T2.on hc3 hg3
      clear T2 hc3 hg3
      have hb := hb.2 (by omega)
      have HOk := Lib.hid (tile_rect ha hb)
      go_wp2_with fail
      refine (sRectangle w3 (2 + 2 * a) (2 + b)).mono ?_
      rintro e w4 ⟨A2, c2, rfl, hown, hb4⟩
      have hz3 := T3.2.2.1
      have T4 := T3.later hb4
      generalize rectR (2 + 2 * a) (2 + b) = ys at hown HOk ⊢
      have HEnd := Lib.hid (tile_end T4 (by omega) hown HOk (Lib.hid rfl))
      obtain ⟨cr, fr⟩ := T4.cell
      have hres := HEnd.out.1
      clear T4 T3 hown hb4 hz3 HOk ha hb
      generalize ys.length = n at HEnd hres ⊢
      go_wp2
      exact bodyPost_ret (v := .agg #[.slice A2 n c2]) (by simp [results, Try.results27, go_sem, hres]) rfl HEnd.out.2

/-- an ending with a region that can be tiled, of the call's own. -/
def TilePost (w : World) (e : Ending) (w' : World) : Prop :=
  ∃ (ys : List Int) (A2 : Option Addr) (n c2 : Nat), Hid (okR ys ∧ 1 ≤ tilesR ys) ∧ Hid (ys.length = n) ∧ e = .returned (.agg #[.slice A2 n c2]) ∧ w'.ownsRow w.heap.size 3 1 (.slice A2 n c2) n (ints ys) ∧ Below w.heap.size w w'

set_option maxRecDepth 100000 in
set_option maxHeartbeats 1000000 in
theorem drawTileable (w : World) (A : Option Addr) (len cap : Nat) (h0 : Coded w w.heap.size A len) :
    Calls Try.prog 10 #[.slice A len cap] w (TilePost w) := by
  have hb0 := below_alloc1 w (.cells #[.slice none 0 0] 26)
  have HC := Lib.hid (show Coded (w.alloc (.cells #[.slice none 0 0] 26)) (w.alloc (.cells #[.slice none 0 0] 26)).heap.size A len from ⟨h0.1, (h0.2.below hb0).mono hb0.size⟩)
  have HR := Lib.hid (heap_alloc_new w (.cells #[.slice none 0 0] 26))
  have HZ := Lib.hid (show (w.alloc (.cells #[.slice none 0 0] 26)).heap.size = w.heap.size + 1 by simp)
  have HB := Lib.hid hb0
  clear h0 hb0
  go_enter Try.func10, Try.ntmps10
  go_wp2_with fail
  refine (new _ A len cap HC.out).mono ?_
  rintro e w1 ⟨g, rfl, hc1, hb1⟩
  have hg0 := hc1.1
  rw [HZ.out] at hg0
  have HCur := Lib.hid hc1
  have HB1 := Lib.hid (HB.out.trans (hb1.mono HB.out.size))
  have HR1 := Lib.hid ((hb1.block w.heap.size (by rw [HZ.out]; omega)).trans HR.out)
  have HZ1 := Lib.hid (show w.heap.size + 1 ≤ w1.heap.size by have := hb1.size; rw [HZ.out] at this; exact this)
  clear hc1 hb1 HC HB HR HZ
  go_wp2_with fail
  refine (tileRegion w1 _ g A len cap HCur.out).mono ?_
  rintro e w2 ⟨ys, A2, n, c2, ho, hl, rfl, hown, hg⟩
  have hz := hg.size
  have hz1 := HZ1.out
  have HR2 := Lib.hid ((hg.block w.heap.size (by omega) (fun q => by injection q; omega)).trans HR1.out)
  have HB2 := Lib.hid (HB1.out.grown hg (by omega) (fun k hk => by injection hk with hk; omega))
  have HO := Lib.hid hown
  clear hown hg HR1 HB1
  obtain ⟨c0, f0⟩ := cellAt HR2.out 0
  have hres := World.cell?_setCell_same (w := w2) ⟨w.heap.size, 0, none⟩ (.slice A2 n c2) (u := .slice none 0 0) c0
  go_wp2
  refine bodyPost_ret (v := .agg #[.slice A2 n c2]) (by simp [results, Try.results10, go_sem, hres]) rfl ⟨ys, A2, n, c2, ho, hl, rfl, ?_, HB2.out.setCell (Nat.le_refl _) _⟩
  exact own_base (ownsRow_setCell_below HO.out (by show w.heap.size < w1.heap.size; omega) _) (by omega)
end Go.Proofs.Ytcncikgcieigaaa.Tile
