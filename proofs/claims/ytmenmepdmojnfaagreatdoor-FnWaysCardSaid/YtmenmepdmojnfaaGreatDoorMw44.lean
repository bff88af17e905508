/- DrawN in one text. -/
import Derived.Test.YtmenmepdmojnfaaGreatDoorMw43
import Derived.Test.YtmenmepdmojnfaaGreatDoorMw38

namespace Go.Proofs.YtmenmepdmojnfaaGreatDoor.Draw
set_option linter.unusedVariables false
set_option linter.unusedSimpArgs false
open Go.RowKit Go.Proofs.YtmenmepdmojnfaaGreatDoor.Reg Go.Joins

theorem row_cells (w : World) (l : List Int) (t : TypeId) : ∀ j, j < l.length → (w.alloc (.cells (l.map (Value.int .i64)).toArray t)).cell? ⟨w.heap.size, j, none⟩ = some (.int .i64 (l.getD j 0)) := fun j hj => by
 rw [cell_of_row _ _ j _ t (0, 0) (heap_alloc_new w _)]
 simp [List.getElem?_eq_getElem hj]
theorem pickInt (w : World) (B g : Nat) (A : Option Addr) (len cap : Nat) (G m c : Nat) (f : Nat → Int) (h0 : Cur w B g A len cap) (hm : 0 < m) (hm2 : m ≤ 1048576) (hG : G ≠ g)
  (hcell : ∀ j, j < m → w.cell? ⟨G, j, none⟩ = some (.int .i64 (f j))) :
  Calls Tryz.prog 148 #[.pointer (some ⟨g, 0, none⟩), .slice (some ⟨G, 0, none⟩) m c] w (Drew (fun x => ∃ j, j < m ∧ x = f j) w B g A len cap) := by
 have HC := Lib.hid h0
 have HF := Lib.hid hcell
 clear h0 hcell
 go_enter Tryz.func148, Tryz.ntmps148
 go_wp2_with fail
 refine (below w B g A len cap m HC.out).mono ?_
 rintro e w1 ⟨x, hx, rfl, hc, hg⟩
 have HC1 := Lib.hid hc
 obtain ⟨x0, x1⟩ := hx.2 (by omega)
 obtain ⟨j, rfl⟩ := Int.eq_ofNat_of_zero_le x0
 have hj : w1.cell? ⟨G, j, none⟩ = some (.int .i64 (f j)) := hg.cell (HF.out j (by omega)) (fun e => hG (by injection e))
 clear hc hx x0
 go_wp2
 go_ret
 exact ⟨_, ⟨j, by omega, rfl⟩, rfl, HC1.out, hg⟩

def DrewA (w : World) (B g : Nat) (A : Option Addr) (len cap : Nat) (e : Ending) (w' : World) : Prop :=
 ∃ (ys : List Int) (A2 : Option Addr) (n c2 : Nat), Hid (ys.length = n) ∧ n ≤ 9 ∧ e = .returned (.agg #[.slice A2 n c2]) ∧ w'.ownsRow w.heap.size 3 1 (.slice A2 n c2) n (ints ys) ∧ w.grownBy w' (some g)
theorem any_end {w : World} {B g : Nat} {A : Option Addr} {len cap p : Nat} {A2 : Option Addr} {n c2 : Nat} {ys : List Int} {W : World} (h : DS w B g A len cap p (.slice A2 n c2) n ys W) (hl : Hid (ys.length = n)) (h9 : n ≤ 9) :
  (W.setCell ⟨w.heap.size, 0, none⟩ (.slice A2 n c2)).cell? ⟨w.heap.size, 0, none⟩ = some (.slice A2 n c2) ∧ DrewA w B g A len cap (.returned (.agg #[.slice A2 n c2])) (W.setCell ⟨w.heap.size, 0, none⟩ (.slice A2 n c2)) := by
 refine ⟨World.cell?_setCell_same (w := W) _ _ h.cells.2.1, ys, A2, n, c2, hl, h9, rfl, ?_, ?_⟩
 ·exact own_base (ownsRow_setCell_below h.2.2.2.2.2.1 (by show w.heap.size < w.heap.size + 1; omega) _) (by omega)
 ·have b := h.2.1
  exact ⟨b.os, b.tape, b.output, by have := b.size; simpa [World.setCell] using this, fun i hi hne => (Below.heap_setCell W _ _ _ (by show i ≠ w.heap.size; omega)).trans (b.block i hi hne)⟩
section
variable {w : World} {B g : Nat} {A : Option Addr} {len cap p : Nat} {va : Value} {k : Nat} {ys : List Int} {W W' : World}
theorem DS.alloc (h : DS w B g A len cap p va k ys W) (o : Obj) : DS w B g A len cap p va k ys (W.alloc o) := h.on (h.1.1.alloc o) (World.grownBy_alloc W o (some g))
theorem DS.frozenP (h : DS w B g A len cap p va k ys W) : W.frozen? ⟨p, 0, none⟩ = false := (cellAt h.2.2.2.1 0).2
theorem Cur.drewC {W : World} (h : Cur W B g A len cap) : Cur W.drew B g A len cap := h
theorem own_less {base e n c gg : Nat} {xs : List Value} (h : W.ownsRow base e 1 (.slice (some ⟨gg, 0, none⟩) n c) n xs) : W.ownsRow base e 1 (.slice (some ⟨gg, 0, none⟩) 0 c) 0 (ints []) := by
 rcases h.2 with ⟨q, _⟩ | ⟨g', c', cur, q, h1, h2, h3, h4, h5, h6⟩
 ·cases q
 ·cases q
  exact ⟨rfl, .inr ⟨gg, c, cur, rfl, h1, h2, Nat.zero_le _, h4, h5, by simp [ints]⟩⟩
theorem DS.boxAfter (h : DS w B g A len cap p va k ys W) (hg : W.grownBy W' va.ownBlock) : W'.cell? ⟨p, 0, none⟩ = some va ∧ W'.frozen? ⟨p, 0, none⟩ = false := by
 have hpl := (Array.getElem?_eq_some_iff.1 h.2.2.2.1).1
 have hb := (hg.block p hpl (fun q => h.2.2.2.2.2.2 q.symm)).trans h.2.2.2.1
 exact ⟨(cellAt hb 0).1.trans rfl, (cellAt hb 0).2⟩
def lenB : Option Value → Nat
 | some (.slice _ n _) => n
 | _ => 0
theorem DS.store {va' : Value} {k' : Nat} {ys' : List Int} (h : DS w B g A len cap p va k ys W) (hg : W.grownBy W' va.ownBlock) (ho : W'.ownsRow (w.heap.size + 1) 3 1 va' k' (ints ys')) (hne : va'.ownBlock ≠ some p) : DS w B g A len cap p va' k' ys' (W'.setCell ⟨p, 0, none⟩ va') := by
 obtain ⟨⟨a, a2⟩, b, c, d, e, f, f2⟩ := h
 have hpl := (Array.getElem?_eq_some_iff.1 d).1
 have hrl := (Array.getElem?_eq_some_iff.1 c).1
 have hl := a.lt
 have hfo : ∀ q, va.ownBlock = some q → w.heap.size + 1 ≤ q := fun q hq => (f.lt q hq).1
 have hbp := (hg.block p hpl (fun q => f2 q.symm)).trans d
 refine ⟨⟨?_, a2⟩, ?_, ?_, ?_, e, ?_, hne⟩
 ·refine (a.later hg (fun q => ?_) (fun q hq => by have := hfo q hq; omega)).setCell (by show B ≤ p; omega) (by show g ≠ p; omega) _
  have := hfo g q
  omega
 ·refine ⟨hg.os.trans b.os, hg.tape.trans b.tape, hg.output.trans b.output, by rw [Flo.setCell_size]; have := b.size; have := hg.size; omega, fun i hi hn => ?_⟩
  rw [Below.heap_setCell W' ⟨p, 0, none⟩ va' i (by show i ≠ p; omega)]
  exact (hg.block i (by have := b.size; omega) (fun q => by have := hfo i q.symm; omega)).trans (b.block i hi hn)
 ·rw [Below.heap_setCell W' ⟨p, 0, none⟩ va' w.heap.size (by show w.heap.size ≠ p; omega)]
  exact (hg.block _ hrl (fun q => by have := hfo _ q.symm; omega)).trans c
 ·have := block_setCell (i := 0) hbp va'
  simpa using this
 ·exact ownsRow_setCell_other ho hne va'
end

set_option maxRecDepth 100000 in
set_option maxHeartbeats 4000000 in
theorem any (w : World) (B g : Nat) (A : Option Addr) (len cap : Nat) (h0 : Cur w B g A len cap) :
  Calls Tryz.prog 126 #[.pointer (some ⟨g, 0, none⟩)] w (DrewA w B g A len cap) := by
 obtain ⟨i0, hi, hzi0, hzi1, hzi2⟩ := info_parts intInfo
 have hgw := h0.lt
 have HD := Lib.hid (fun W n (hc : Cur W B g A len cap) => below W B g A len cap n hc)
 have HA0 := Lib.hid (h0.alloc (.cells #[.slice none 0 0] 26))
 have HG0 := Lib.hid (show w.grownBy (w.alloc (.cells #[.slice none 0 0] 26)) (some g) from World.grownBy_alloc w _ _)
 have HR0 := Lib.hid (heap_alloc_new w (.cells #[.slice none 0 0] 26))
 have HZ0 := Lib.hid (show (w.alloc (.cells #[.slice none 0 0] 26)).heap.size = w.heap.size + 1 by simp)
 clear h0
 go_enter Tryz.func126, Tryz.ntmps126
 go_wp2_with fail
 refine (region _ B g A len cap HA0.out).mono ?_
 rintro e w1 ⟨ys, A2, n, c2, ho, hl, rfl, hown, hg1, hn1, hc1⟩
 rw [HZ0.out] at hown
 have hn8 : n ≤ 8 := by have := ho.out.1; have := hl.out; omega
 have hz1 : w.heap.size + 1 ≤ w1.heap.size := by have := hg1.size; rw [HZ0.out] at this; exact this
 have S0 := Lib.hid (show DS w B g A len cap w1.heap.size (.slice A2 n c2) n ys (w1.alloc (.cells #[.slice A2 n c2] 26)) from by
  have hal := below_alloc1 w1 (.cells #[.slice A2 n c2] 26)
  refine ⟨⟨hc1.later (grown_below hal none) (by simp) (by simp), hgw.2⟩, grown_trans (grown_trans HG0.out hg1) (grown_below hal _), (hal.block _ (by omega)).trans ((hg1.block w.heap.size (by rw [HZ0.out]; omega) (by intro q; injection q; omega)).trans HR0.out), heap_alloc_new w1 _, by omega, hown.alloc _, fun q => ?_⟩
  have := (hown.lt _ q).2
  omega)
 clear hown hg1 hc1 HA0 HG0 HR0 HZ0 ho
 go_wp2_with fail
 have S1 := S0.out
 clear S0
 generalize w1.alloc (.cells #[.slice A2 n c2] 26) = W1 at S1 ⊢
 generalize w1.heap.size = p at S1 ⊢
 refine (HD.out _ 10 S1.1.1).mono ?_
 rintro e w2 ⟨x, hx, rfl, hc2, hg2⟩
 have S2 := S1.on hc2 hg2
 clear S1 hc2 hg2
 obtain ⟨gg, gc, hv, hgg1, hgg2⟩ := S2.2.2.2.2.2.1.form (by omega)
 injection hv with hA2 hz8 hcc
 subst hA2
 clear hz8 hcc
 have hn0 : 0 < n := by omega
 by_cases hx0 : x = 0
 ·subst hx0
  clear hx
  have HS0 := Lib.hid (fun W (h : ∃ zs : List Int, zs.length = n ∧ DS w B g A len cap p (.slice (some ⟨gg, 0, none⟩) n c2) n zs W) => show (∃ zs : List Int, zs.length = n ∧ DS w B g A len cap p (.slice (some ⟨gg, 0, none⟩) n c2) n zs W) ∧ W.cell? ⟨p, 0, none⟩ = some (.slice (some ⟨gg, 0, none⟩) n c2) from ⟨h, by obtain ⟨zs, _, hz⟩ := h; exact hz.cells.1⟩)
  go_wp2_with fail
  refine wp_region_noPanic ?_
  refine wp_region_held_drew (S := (fun W => (∃ zs : List Int, zs.length = n ∧ DS w B g A len cap p (.slice (some ⟨gg, 0, none⟩) n c2) n zs W) ∧ W.cell? ⟨p, 0, none⟩ = some (.slice (some ⟨gg, 0, none⟩) n c2))) (by kernel_rfl) (HS0.out _ ⟨ys, hl.out, S2.drew⟩) (fun hHeld => ?_)
  refine wpAnyH_take (i := 0) (v := ?_) rfl (by kernel_rfl) (by kernel_rfl) (by kernel_rfl) (fun _ _ _ h => h) (Or.inl ⟨by rfl, ?_⟩) (by assumption) ?_
  rotate_left
  ·(intro w' hS; (try dsimp only at hS); go_simp; try with_reducible rfl)
  try simp only [Act.put, List.getElem_toArray, List.getElem_cons_succ, List.getElem_cons_zero, List.setIfInBounds_toArray, List.set_cons_zero, List.set_cons_succ]
  refine wpAnyH_take (i := 1) (v := ?_) rfl (by kernel_rfl) (by kernel_rfl) (by kernel_rfl) (fun _ _ _ h => h) (Or.inl ⟨by rfl, ?_⟩) (by assumption) ?_
  rotate_left
  ·(intro w' hS; (try dsimp only at hS); go_simp; try with_reducible rfl)
  try simp only [Act.put, List.getElem_toArray, List.getElem_cons_succ, List.getElem_cons_zero, List.setIfInBounds_toArray, List.set_cons_zero, List.set_cons_succ]
  refine wpAnyH_take (i := 2) (v := ?_) rfl (by kernel_rfl) (by kernel_rfl) (by kernel_rfl) (fun _ _ _ h => h) (Or.inl ⟨by rfl, ?_⟩) (by assumption) ?_
  rotate_left
  ·(intro w' hS; (try dsimp only at hS); go_simp; try with_reducible rfl)
  try simp only [Act.put, List.getElem_toArray, List.getElem_cons_succ, List.getElem_cons_zero, List.setIfInBounds_toArray, List.set_cons_zero, List.set_cons_succ]
  refine wpAnyH_ready (rs := [3]) (by kernel_rfl) (by simp) ?_
  refine AllReadyH.cons rfl (fun K hK => ?_) AllReadyH.nil
  go_simp
  refine hK.out _ _ (HS0.out _ ⟨ys, hl.out, (S2.alloc (.cells #[.int .i64 (-1), .int .i64 255, .int .i64 256] 3)).drew⟩) (fun hHeld => ?_)
  clear hK K
  try simp only [Act.put, List.getElem_toArray, List.getElem_cons_succ, List.getElem_cons_zero, List.setIfInBounds_toArray, List.set_cons_zero, List.set_cons_succ]
  refine wpAnyH_ready (rs := [4]) (by kernel_rfl) (by simp) ?_
  refine AllReadyH.cons rfl (fun K hK => ?_) AllReadyH.nil
  go_simp
  refine (pickInt _ B g A len cap w2.heap.size 3 3 _ ((S2.1.1.alloc (.cells #[.int .i64 (-1), .int .i64 255, .int .i64 256] 3)).drewC) (by omega) (by omega) (by have := S2.1.1.lt; omega) (row_cells w2 [-1, 255, 256] 3)).mono ?_
  rintro e w3 ⟨xv, ⟨j, hj, hxv⟩, rfl, hc3, hg3⟩
  have S3 := (S2.alloc (.cells #[.int .i64 (-1), .int .i64 255, .int .i64 256] 3)).drew.on hc3 hg3
  clear hxv
  go_wp2_with fail
  refine hK.out _ _ (HS0.out _ ⟨ys, hl.out, S3⟩) (fun hHeld => ?_)
  clear hK K
  try simp only [Act.put, List.getElem_toArray, List.getElem_cons_succ, List.getElem_cons_zero, List.setIfInBounds_toArray, List.set_cons_zero, List.set_cons_succ]
  refine wpAnyH_take (i := 5) (v := ?_) rfl (by kernel_rfl) (by kernel_rfl) (by kernel_rfl) (fun _ _ _ h => h) (Or.inl ⟨by rfl, ?_⟩) (by assumption) ?_
  rotate_left
  ·(intro w' hS; (try dsimp only at hS); go_simp; try with_reducible rfl)
  try simp only [Act.put, List.getElem_toArray, List.getElem_cons_succ, List.getElem_cons_zero, List.setIfInBounds_toArray, List.set_cons_zero, List.set_cons_succ]
  refine wpAnyH_ready (rs := [6]) (by kernel_rfl) (by simp) ?_
  refine AllReadyH.cons rfl (fun K hK => ?_) AllReadyH.nil
  obtain ⟨hrc, hrf⟩ := row_cell S3.2.2.2.2.2.1 (y := 0) (by omega)
  have S4 := S3.put (j := 0) (z := xv)
  go_simp
  refine hK.out _ _ (HS0.out _ ⟨ys.set 0 xv, by rw [List.length_set]; exact hl.out, S4⟩) (fun hHeld => ?_)
  clear hK K
  try simp only [Act.put, List.getElem_toArray, List.getElem_cons_succ, List.getElem_cons_zero, List.setIfInBounds_toArray, List.set_cons_zero, List.set_cons_succ]
  refine wpAnyH_done (by kernel_rfl) ?_ _
  refine NoPanic.normal ?_
  clear hHeld S3 hrc hrf S2 HS0
  have HEnd := Lib.hid (any_end S4 (Lib.hid (by rw [List.length_set]; exact hl.out)) (by omega))
  obtain ⟨cp, cr, fr⟩ := S4.cells
  have hres := HEnd.out.1
  clear S4
  go_wp2
  exact bodyPost_ret (v := .agg #[.slice (some ⟨gg, 0, none⟩) n c2]) (by simp [results, Tryz.results126, go_sem, hres]) rfl HEnd.out.2
 ·by_cases hx1 : x = 1
  ·subst hx1
   clear hx hx0
   have HL := Lib.hid hl
   clear hl
   go_wp2_with fail
   go_loopw [18] (fun _ wr => ∃ (k g1 c1 : Nat) (zs : List Int), k ≤ 9 ∧ Hid (zs.length = k) ∧ DS w B g A len cap p (.slice (some ⟨g1, 0, none⟩) k c1) k zs wr) (fun _ wr => 9 - lenB (wr.cell? ⟨p, 0, none⟩))
   case atStart => exact ⟨n, gg, c2, ys, by omega, HL.out, S2⟩
   case round =>
    clear S2 HL
    obtain ⟨k, g1, c1, zs, hk9, hzl, S3⟩ := hrel
    have HSk := Lib.hid (fun W (h : DS w B g A len cap p (.slice (some ⟨g1, 0, none⟩) k c1) k zs W) => show DS w B g A len cap p (.slice (some ⟨g1, 0, none⟩) k c1) k zs W ∧ W.cell? ⟨p, 0, none⟩ = some (.slice (some ⟨g1, 0, none⟩) k c1) from ⟨h, h.cells.1⟩)
    have hcp0 := S3.cells.1
    go_wp2_with fail
    refine wp_region_noPanic ?_
    refine wp_region_held_drew (S := (fun W => DS w B g A len cap p (.slice (some ⟨g1, 0, none⟩) k c1) k zs W ∧ W.cell? ⟨p, 0, none⟩ = some (.slice (some ⟨g1, 0, none⟩) k c1))) (by kernel_rfl) (HSk.out _ S3.drew) (fun hHeld => ?_)
    refine wpAnyH_take (i := 0) (v := ?_) rfl (by kernel_rfl) (by kernel_rfl) (by kernel_rfl) (fun _ _ _ h => h) (Or.inl ⟨by rfl, ?_⟩) (by assumption) ?_
    rotate_left
    ·(intro w' hS; (try dsimp only at hS); go_simp; try with_reducible rfl)
    try simp only [Act.put, List.getElem_toArray, List.getElem_cons_succ, List.getElem_cons_zero, List.setIfInBounds_toArray, List.set_cons_zero, List.set_cons_succ]
    refine wpAnyH_take (i := 1) (v := ?_) rfl (by kernel_rfl) (by kernel_rfl) (by kernel_rfl) (fun _ _ _ h => h) (Or.inl ⟨by rfl, ?_⟩) (by assumption) ?_
    rotate_left
    ·(intro w' hS; (try dsimp only at hS); go_simp; try with_reducible rfl)
    try simp only [Act.put, List.getElem_toArray, List.getElem_cons_succ, List.getElem_cons_zero, List.setIfInBounds_toArray, List.set_cons_zero, List.set_cons_succ]
    refine wpAnyH_take (i := 2) (v := ?_) rfl (by kernel_rfl) (by kernel_rfl) (by kernel_rfl) (fun _ _ _ h => h) (Or.inl ⟨by rfl, ?_⟩) (by assumption) ?_
    rotate_left
    ·(intro w' hS; (try dsimp only at hS); go_simp; try with_reducible rfl)
    try simp only [Act.put, List.getElem_toArray, List.getElem_cons_succ, List.getElem_cons_zero, List.setIfInBounds_toArray, List.set_cons_zero, List.set_cons_succ]
    refine wpAnyH_take (i := 3) (v := ?_) rfl (by kernel_rfl) (by kernel_rfl) (by kernel_rfl) (fun _ _ _ h => h) (Or.inl ⟨by rfl, ?_⟩) (by assumption) ?_
    rotate_left
    ·(intro w' hS; (try dsimp only at hS); go_simp; try with_reducible rfl)
    try simp only [Act.put, List.getElem_toArray, List.getElem_cons_succ, List.getElem_cons_zero, List.setIfInBounds_toArray, List.set_cons_zero, List.set_cons_succ]
    refine wpAnyH_ready (rs := [4]) (by kernel_rfl) (by simp) ?_
    refine AllReadyH.cons rfl (fun K hK => ?_) AllReadyH.nil
    go_simp
    refine (HD.out _ 2 hHeld.1.1.1).mono ?_
    rintro e w4 ⟨xv, hxv, rfl, hc4, hg4⟩
    have hxb := hxv.2 (by omega)
    have hw8 : IntKind.i64.wrap (8 + xv) = 8 + xv := by rw [IntKind.wrap_i64]; omega
    have S4 := hHeld.1.on hc4 hg4
    clear hxv hc4 hg4
    go_wp2_with fail
    refine hK.out _ _ (HSk.out _ S4) (fun hHeld => ?_)
    clear hK K
    try simp only [Act.put, List.getElem_toArray, List.getElem_cons_succ, List.getElem_cons_zero, List.setIfInBounds_toArray, List.set_cons_zero, List.set_cons_succ]
    refine wpAnyH_take (i := 5) (v := ?_) rfl (by kernel_rfl) (by kernel_rfl) (by kernel_rfl) (fun _ _ _ h => h) (Or.inl ⟨by rfl, ?_⟩) (by assumption) ?_
    rotate_left
    ·(intro w' hS; (try dsimp only at hS); go_simp; try with_reducible rfl)
    try simp only [Act.put, List.getElem_toArray, List.getElem_cons_succ, List.getElem_cons_zero, List.setIfInBounds_toArray, List.set_cons_zero, List.set_cons_succ]
    refine wpAnyH_take (i := 6) (v := ?_) rfl (by kernel_rfl) (by kernel_rfl) (by kernel_rfl) (fun _ _ _ h => h) (Or.inl ⟨by rfl, ?_⟩) (by assumption) ?_
    rotate_left
    ·(intro w' hS; (try dsimp only at hS); go_simp; try with_reducible rfl)
    try simp only [Act.put, List.getElem_toArray, List.getElem_cons_succ, List.getElem_cons_zero, List.setIfInBounds_toArray, List.set_cons_zero, List.set_cons_succ]
    refine wpAnyH_done (by kernel_rfl) ?_ _
    refine NoPanic.normal ?_
    clear hHeld S3
    obtain ⟨cp, cr, fr⟩ := S4.cells
    have fp := S4.frozenP
    by_cases hlt : (k : Int) < 8 + xv
    ·go_wp2_with fail
     refine wp_region_noPanic ?_
     refine wp_region_held_drew (S := fun _ => True) (by kernel_rfl) (trivial) (fun hHeld => ?_)
     refine wpAnyH_take (i := 0) (v := ?_) rfl (by kernel_rfl) (by kernel_rfl) (by kernel_rfl) (fun _ _ _ h => h) (Or.inl ⟨by rfl, ?_⟩) (by assumption) ?_
     rotate_left
     ·(intro w' hS; (try dsimp only at hS); go_simp; try with_reducible rfl)
     try simp only [Act.put, List.getElem_toArray, List.getElem_cons_succ, List.getElem_cons_zero, List.setIfInBounds_toArray, List.set_cons_zero, List.set_cons_succ]
     refine wpAnyH_take (i := 2) (v := ?_) rfl (by kernel_rfl) (by kernel_rfl) (by kernel_rfl) (fun _ _ _ h => h) (Or.inl ⟨by rfl, ?_⟩) (by assumption) ?_
     rotate_left
     ·(intro w' hS; (try dsimp only at hS); go_simp; try with_reducible rfl)
     try simp only [Act.put, List.getElem_toArray, List.getElem_cons_succ, List.getElem_cons_zero, List.setIfInBounds_toArray, List.set_cons_zero, List.set_cons_succ]
     refine wpAnyH_ready (rs := [1, 3]) (by kernel_rfl) (by simp) ?_
     refine AllReadyH.cons rfl (fun K hK => ?_) (AllReadyH.cons rfl (fun K hK => ?_) (AllReadyH.nil))
     ·have hcq := S4.drew.cells.1
      go_simp
      refine hK.out _ _ trivial (fun hHeld => ?_)
      clear hcq
      clear hK K
      try simp only [Act.put, List.getElem_toArray, List.getElem_cons_succ, List.getElem_cons_zero, List.setIfInBounds_toArray, List.set_cons_zero, List.set_cons_succ]
      refine wpAnyH_ready (rs := [3]) (by kernel_rfl) (by simp) ?_
      refine AllReadyH.cons rfl (fun K hK => ?_) (AllReadyH.nil)
      ·go_simp
       refine (HD.out _ 4 S4.drew.1.1).mono ?_
       rintro e w5 ⟨xv2, _, rfl, hc5, hg5⟩
       have S5 := S4.drew.on hc5 hg5
       clear hc5 hg5
       go_wp2_with fail
       refine hK.out _ _ trivial (fun hHeld => ?_)
       clear hK K
       try simp only [Act.put, List.getElem_toArray, List.getElem_cons_succ, List.getElem_cons_zero, List.setIfInBounds_toArray, List.set_cons_zero, List.set_cons_succ]
       refine wpAnyH_ready (rs := [4]) (by kernel_rfl) (by simp) ?_
       refine AllReadyH.cons rfl (fun K hK => ?_) (AllReadyH.nil)
       ·go_simp
        refine hK.out _ _ trivial (fun hHeld => ?_)
        have S6 := S5.alloc (.cells #[.int .i64 xv2] 3)
        clear hK K
        try simp only [Act.put, List.getElem_toArray, List.getElem_cons_succ, List.getElem_cons_zero, List.setIfInBounds_toArray, List.set_cons_zero, List.set_cons_succ]
        refine wpAnyH_ready (rs := [5]) (by kernel_rfl) (by simp) ?_
        refine AllReadyH.cons rfl (fun K hK => ?_) (AllReadyH.nil)
        ·refine step_append_lies _ (by rfl) _ _ _ (by rfl) (w.heap.size + 1) 3 i0 (.int .i64 0) 1 8 Tryz.underlying24 hi hzi0 hzi1 hzi2 rfl (by decide) (.slice (some ⟨g1, 0, none⟩) k c1) k (ints zs) (by rfl) S6.2.2.2.2.2.1 ⟨w5.heap.size, 0, none⟩ 1 1 [.int .i64 xv2] (by rfl) rfl (World.news_of_block (cs := #[.int .i64 xv2]) (t := 3) (fr := (0, 0)) (heap_alloc_new w5 _)) (by simp [Value.oneCell']) (by omega) (by unfold maxLen; omega) (by omega) (by have := S6.2.1.size; have := hgw.2; have h5 := S6.2.2.2.1; have := (Array.getElem?_eq_some_iff.1 h5).1; have := S6.2.2.2.2.1; omega) _ rfl ?_
         intro g2 cap2 w6 hown6 hgrow hat hlt6
         refine hK.out _ _ trivial (fun hHeld => ?_)
         clear hK K
         try simp only [Act.put, List.getElem_toArray, List.getElem_cons_succ, List.getElem_cons_zero, List.setIfInBounds_toArray, List.set_cons_zero, List.set_cons_succ]
         refine wpAnyH_take (i := 6) (v := ?_) rfl (by kernel_rfl) (by kernel_rfl) (by kernel_rfl) (fun _ _ _ h => h) (Or.inl ⟨by rfl, ?_⟩) (by assumption) ?_
         rotate_left
         ·(intro w' hS; (try dsimp only at hS); go_simp; try with_reducible rfl)
         try simp only [Act.put, List.getElem_toArray, List.getElem_cons_succ, List.getElem_cons_zero, List.setIfInBounds_toArray, List.set_cons_zero, List.set_cons_succ]
         refine wpAnyH_ready (rs := [7]) (by kernel_rfl) (by simp) ?_
         refine AllReadyH.cons rfl (fun K hK => ?_) (AllReadyH.nil)
         ·obtain ⟨hcp6, hfp6⟩ := S6.boxAfter hgrow
          have hg2p : g2 ≠ p := by
           have h1 := S6.2.2.2.2.2.2
           have h2 := (Array.getElem?_eq_some_iff.1 S6.2.2.2.1).1
           rcases hat with q | q
           ·simp [Value.ownBlock] at q h1; omega
           ·omega
          have S7 := S6.store (va' := .slice (some ⟨g2, 0, none⟩) (k + 1) cap2) (k' := k + 1) (ys' := zs ++ [xv2]) hgrow (by rw [ints_snoc]; exact hown6) (by simp [Value.ownBlock]; exact hg2p)
          go_simp
          refine hK.out _ _ trivial (fun hHeld => ?_)
          clear hK K
          try simp only [Act.put, List.getElem_toArray, List.getElem_cons_succ, List.getElem_cons_zero, List.setIfInBounds_toArray, List.set_cons_zero, List.set_cons_succ]
          refine wpAnyH_done (by kernel_rfl) ?_ _
          refine NoPanic.normal ?_
          have HS7 := Lib.hid S7
          have hm7 := S7.cells.1
          have HLn := Lib.hid (show (zs ++ [xv2]).length = k + 1 by rw [List.length_append, hzl.out]; rfl)
          clear S7 S6 S5 S4 hown6 hgrow hat hcp6 hfp6 cp cr fr fp
          go_wp2
          go_roundw
          case rel => exact ⟨k + 1, g2, cap2, zs ++ [xv2], by omega, HLn, HS7.out⟩
          case measure => (simp [lenB, hcp0, hm7] <;> omega)
     ·go_simp
      refine (HD.out _ 4 S4.drew.1.1).mono ?_
      rintro e w5 ⟨xv2, _, rfl, hc5, hg5⟩
      have S5 := S4.drew.on hc5 hg5
      clear hc5 hg5
      go_wp2_with fail
      refine hK.out _ _ trivial (fun hHeld => ?_)
      clear hK K
      try simp only [Act.put, List.getElem_toArray, List.getElem_cons_succ, List.getElem_cons_zero, List.setIfInBounds_toArray, List.set_cons_zero, List.set_cons_succ]
      refine wpAnyH_ready (rs := [1, 4]) (by kernel_rfl) (by simp) ?_
      refine AllReadyH.cons rfl (fun K hK => ?_) (AllReadyH.cons rfl (fun K hK => ?_) (AllReadyH.nil))
      ·have hcq := S5.cells.1
       go_simp
       refine hK.out _ _ trivial (fun hHeld => ?_)
       clear hcq
       clear hK K
       try simp only [Act.put, List.getElem_toArray, List.getElem_cons_succ, List.getElem_cons_zero, List.setIfInBounds_toArray, List.set_cons_zero, List.set_cons_succ]
       refine wpAnyH_ready (rs := [4]) (by kernel_rfl) (by simp) ?_
       refine AllReadyH.cons rfl (fun K hK => ?_) (AllReadyH.nil)
       ·go_simp
        refine hK.out _ _ trivial (fun hHeld => ?_)
        have S6 := S5.alloc (.cells #[.int .i64 xv2] 3)
        clear hK K
        try simp only [Act.put, List.getElem_toArray, List.getElem_cons_succ, List.getElem_cons_zero, List.setIfInBounds_toArray, List.set_cons_zero, List.set_cons_succ]
        refine wpAnyH_ready (rs := [5]) (by kernel_rfl) (by simp) ?_
        refine AllReadyH.cons rfl (fun K hK => ?_) (AllReadyH.nil)
        ·refine step_append_lies _ (by rfl) _ _ _ (by rfl) (w.heap.size + 1) 3 i0 (.int .i64 0) 1 8 Tryz.underlying24 hi hzi0 hzi1 hzi2 rfl (by decide) (.slice (some ⟨g1, 0, none⟩) k c1) k (ints zs) (by rfl) S6.2.2.2.2.2.1 ⟨w5.heap.size, 0, none⟩ 1 1 [.int .i64 xv2] (by rfl) rfl (World.news_of_block (cs := #[.int .i64 xv2]) (t := 3) (fr := (0, 0)) (heap_alloc_new w5 _)) (by simp [Value.oneCell']) (by omega) (by unfold maxLen; omega) (by omega) (by have := S6.2.1.size; have := hgw.2; have h5 := S6.2.2.2.1; have := (Array.getElem?_eq_some_iff.1 h5).1; have := S6.2.2.2.2.1; omega) _ rfl ?_
         intro g2 cap2 w6 hown6 hgrow hat hlt6
         refine hK.out _ _ trivial (fun hHeld => ?_)
         clear hK K
         try simp only [Act.put, List.getElem_toArray, List.getElem_cons_succ, List.getElem_cons_zero, List.setIfInBounds_toArray, List.set_cons_zero, List.set_cons_succ]
         refine wpAnyH_take (i := 6) (v := ?_) rfl (by kernel_rfl) (by kernel_rfl) (by kernel_rfl) (fun _ _ _ h => h) (Or.inl ⟨by rfl, ?_⟩) (by assumption) ?_
         rotate_left
         ·(intro w' hS; (try dsimp only at hS); go_simp; try with_reducible rfl)
         try simp only [Act.put, List.getElem_toArray, List.getElem_cons_succ, List.getElem_cons_zero, List.setIfInBounds_toArray, List.set_cons_zero, List.set_cons_succ]
         refine wpAnyH_ready (rs := [7]) (by kernel_rfl) (by simp) ?_
         refine AllReadyH.cons rfl (fun K hK => ?_) (AllReadyH.nil)
         ·obtain ⟨hcp6, hfp6⟩ := S6.boxAfter hgrow
          have hg2p : g2 ≠ p := by
           have h1 := S6.2.2.2.2.2.2
           have h2 := (Array.getElem?_eq_some_iff.1 S6.2.2.2.1).1
           rcases hat with q | q
           ·simp [Value.ownBlock] at q h1; omega
           ·omega
          have S7 := S6.store (va' := .slice (some ⟨g2, 0, none⟩) (k + 1) cap2) (k' := k + 1) (ys' := zs ++ [xv2]) hgrow (by rw [ints_snoc]; exact hown6) (by simp [Value.ownBlock]; exact hg2p)
          go_simp
          refine hK.out _ _ trivial (fun hHeld => ?_)
          clear hK K
          try simp only [Act.put, List.getElem_toArray, List.getElem_cons_succ, List.getElem_cons_zero, List.setIfInBounds_toArray, List.set_cons_zero, List.set_cons_succ]
          refine wpAnyH_done (by kernel_rfl) ?_ _
          refine NoPanic.normal ?_
          have HS7 := Lib.hid S7
          have hm7 := S7.cells.1
          have HLn := Lib.hid (show (zs ++ [xv2]).length = k + 1 by rw [List.length_append, hzl.out]; rfl)
          clear S7 S6 S5 S4 hown6 hgrow hat hcp6 hfp6 cp cr fr fp
          go_wp2
          go_roundw
          case rel => exact ⟨k + 1, g2, cap2, zs ++ [xv2], by omega, HLn, HS7.out⟩
          case measure => (simp [lenB, hcp0, hm7] <;> omega)
      ·go_simp
       refine hK.out _ _ trivial (fun hHeld => ?_)
       have S6 := S5.alloc (.cells #[.int .i64 xv2] 3)
       clear hK K
       try simp only [Act.put, List.getElem_toArray, List.getElem_cons_succ, List.getElem_cons_zero, List.setIfInBounds_toArray, List.set_cons_zero, List.set_cons_succ]
       refine wpAnyH_ready (rs := [1]) (by kernel_rfl) (by simp) ?_
       refine AllReadyH.cons rfl (fun K hK => ?_) (AllReadyH.nil)
       ·have hcq := S6.cells.1
        go_simp
        refine hK.out _ _ trivial (fun hHeld => ?_)
        clear hcq
        clear hK K
        try simp only [Act.put, List.getElem_toArray, List.getElem_cons_succ, List.getElem_cons_zero, List.setIfInBounds_toArray, List.set_cons_zero, List.set_cons_succ]
        refine wpAnyH_ready (rs := [5]) (by kernel_rfl) (by simp) ?_
        refine AllReadyH.cons rfl (fun K hK => ?_) (AllReadyH.nil)
        ·refine step_append_lies _ (by rfl) _ _ _ (by rfl) (w.heap.size + 1) 3 i0 (.int .i64 0) 1 8 Tryz.underlying24 hi hzi0 hzi1 hzi2 rfl (by decide) (.slice (some ⟨g1, 0, none⟩) k c1) k (ints zs) (by rfl) S6.2.2.2.2.2.1 ⟨w5.heap.size, 0, none⟩ 1 1 [.int .i64 xv2] (by rfl) rfl (World.news_of_block (cs := #[.int .i64 xv2]) (t := 3) (fr := (0, 0)) (heap_alloc_new w5 _)) (by simp [Value.oneCell']) (by omega) (by unfold maxLen; omega) (by omega) (by have := S6.2.1.size; have := hgw.2; have h5 := S6.2.2.2.1; have := (Array.getElem?_eq_some_iff.1 h5).1; have := S6.2.2.2.2.1; omega) _ rfl ?_
         intro g2 cap2 w6 hown6 hgrow hat hlt6
         refine hK.out _ _ trivial (fun hHeld => ?_)
         clear hK K
         try simp only [Act.put, List.getElem_toArray, List.getElem_cons_succ, List.getElem_cons_zero, List.setIfInBounds_toArray, List.set_cons_zero, List.set_cons_succ]
         refine wpAnyH_take (i := 6) (v := ?_) rfl (by kernel_rfl) (by kernel_rfl) (by kernel_rfl) (fun _ _ _ h => h) (Or.inl ⟨by rfl, ?_⟩) (by assumption) ?_
         rotate_left
         ·(intro w' hS; (try dsimp only at hS); go_simp; try with_reducible rfl)
         try simp only [Act.put, List.getElem_toArray, List.getElem_cons_succ, List.getElem_cons_zero, List.setIfInBounds_toArray, List.set_cons_zero, List.set_cons_succ]
         refine wpAnyH_ready (rs := [7]) (by kernel_rfl) (by simp) ?_
         refine AllReadyH.cons rfl (fun K hK => ?_) (AllReadyH.nil)
         ·obtain ⟨hcp6, hfp6⟩ := S6.boxAfter hgrow
          have hg2p : g2 ≠ p := by
           have h1 := S6.2.2.2.2.2.2
           have h2 := (Array.getElem?_eq_some_iff.1 S6.2.2.2.1).1
           rcases hat with q | q
           ·simp [Value.ownBlock] at q h1; omega
           ·omega
          have S7 := S6.store (va' := .slice (some ⟨g2, 0, none⟩) (k + 1) cap2) (k' := k + 1) (ys' := zs ++ [xv2]) hgrow (by rw [ints_snoc]; exact hown6) (by simp [Value.ownBlock]; exact hg2p)
          go_simp
          refine hK.out _ _ trivial (fun hHeld => ?_)
          clear hK K
          try simp only [Act.put, List.getElem_toArray, List.getElem_cons_succ, List.getElem_cons_zero, List.setIfInBounds_toArray, List.set_cons_zero, List.set_cons_succ]
          refine wpAnyH_done (by kernel_rfl) ?_ _
          refine NoPanic.normal ?_
          have HS7 := Lib.hid S7
          have hm7 := S7.cells.1
          have HLn := Lib.hid (show (zs ++ [xv2]).length = k + 1 by rw [List.length_append, hzl.out]; rfl)
          clear S7 S6 S5 S4 hown6 hgrow hat hcp6 hfp6 cp cr fr fp
          go_wp2
          go_roundw
          case rel => exact ⟨k + 1, g2, cap2, zs ++ [xv2], by omega, HLn, HS7.out⟩
          case measure => (simp [lenB, hcp0, hm7] <;> omega)
    ·have HEnd := Lib.hid (any_end S4 hzl (by omega))
     have hres := HEnd.out.1
     clear S4
     go_wp2
     exact bodyPost_ret (v := .agg #[.slice (some ⟨g1, 0, none⟩) k c1]) (by simp [results, Tryz.results126, go_sem, hres]) rfl HEnd.out.2
  ·by_cases hx2 : x = 2
   ·subst hx2
    clear hx hx0 hx1
    have S3 := S2.store (va' := .slice (some ⟨gg, 0, none⟩) 0 c2) (k' := 0) (ys' := []) (grown_refl w2 _) (own_less S2.2.2.2.2.2.1) S2.2.2.2.2.2.2
    obtain ⟨cp, cr, fr⟩ := S2.cells
    have fp := S2.frozenP
    have HEnd := Lib.hid (any_end S3 (Lib.hid rfl) (by omega))
    obtain ⟨cp3, cr3, fr3⟩ := S3.cells
    have hres := HEnd.out.1
    clear S2 S3
    go_wp2
    exact bodyPost_ret (v := .agg #[.slice (some ⟨gg, 0, none⟩) 0 c2]) (by simp [results, Tryz.results126, go_sem, hres]) rfl HEnd.out.2
   ·have HEnd := Lib.hid (any_end S2 hl (by omega))
    obtain ⟨cp, cr, fr⟩ := S2.cells
    have hres := HEnd.out.1
    clear S2 hx
    go_wp2
    exact bodyPost_ret (v := .agg #[.slice (some ⟨gg, 0, none⟩) n c2]) (by simp [results, Tryz.results126, go_sem, hres]) rfl HEnd.out.2
end Go.Proofs.YtmenmepdmojnfaaGreatDoor.Draw
