/- CntQ, CntT, StS in one text. -/
import Derived.Test.YtmaghekcpopepaaDoorMgPrf
import Derived.Test.YtmaghekcpopepaaDoorMgCell
import Derived.StillTailTactics
import Derived.Deep.RegionHeld3
import Derived.Test.YtmaghekcpopepaaDoorMgCtS
import Derived.Test.YtmaghekcpopepaaDoorSct

/- The model's count of partial tilings, by the places of a list. -/
namespace Go.Proofs.YtmaghekcpopepaaDoor.Cnt
set_option linter.unusedVariables false
set_option linter.unusedSimpArgs false
open Go.RowKit Go.Proofs.YtmaghekcpopepaaDoor.Base Go.Proofs.YtmaghekcpopepaaDoor.Pure Go.Proofs.YtmaghekcpopepaaDoor.Cell Go.Proofs.YtmaghekcpopepaaDoor.Reg Go.Joins

/-- the marks in the block b. -/
def Bks (W : World) (b L : Nat) (u : Nat → Bool) : Prop := ∃ cs t, W.heap[b]? = some (.cells cs t (0, 0)) ∧ L ≤ cs.size ∧ ∀ i, i < L → cs[i]? = some (.bool (u i))
theorem Bks.lt {W : World} {b L : Nat} {u : Nat → Bool} (h : Bks W b L u) : b < W.heap.size := by
  obtain ⟨cs, t, h, _⟩ := h
  exact (Array.getElem?_eq_some_iff.1 h).1
theorem Bks.cell {W : World} {b L : Nat} {u : Nat → Bool} (h : Bks W b L u) {i : Nat} (hi : i < L) : W.cell? ⟨b, i, none⟩ = some (.bool (u i)) := by
  obtain ⟨cs, t, h, _, h2⟩ := h
  rw [cell_of_block h i]; exact h2 i hi
theorem Bks.frozen {W : World} {b L : Nat} {u : Nat → Bool} (h : Bks W b L u) (i : Nat) : W.frozen? ⟨b, i, none⟩ = false := by
  obtain ⟨cs, t, h, _⟩ := h
  exact unfrozen_of_block h i
theorem Bks.set {W : World} {b L : Nat} {u : Nat → Bool} (h : Bks W b L u) {i : Nat} (hi : i < L) (x : Bool) : Bks (W.setCell ⟨b, i, none⟩ (.bool x)) b L (fun j => if j = i then x else u j) := by
  obtain ⟨cs, t, h, hs, h2⟩ := h
  refine ⟨_, t, block_setCell h _, by simpa using hs, fun j hj => ?_⟩
  rw [Array.getElem?_setIfInBounds]
  by_cases e : i = j
  · subst e; rw [if_pos rfl, if_pos (by omega)]; simp
  · have : ¬ j = i := fun q => e q.symm
    rw [if_neg e, h2 j hj]; simp [this]
theorem Bks.on {W W' : World} {b L : Nat} {u : Nat → Bool} (h : Bks W b L u) (hb : Below W.heap.size W W') : Bks W' b L u := by
  have hl := h.lt
  obtain ⟨cs, t, h, r⟩ := h
  exact ⟨cs, t, (hb.block b hl).trans h, r⟩
theorem Bks.same {W : World} {b L : Nat} {u u' : Nat → Bool} (h : Bks W b L u) (e : ∀ i, i < L → u i = u' i) : Bks W b L u' := by
  obtain ⟨cs, t, h, hs, h2⟩ := h
  exact ⟨cs, t, h, hs, fun i hi => by rw [h2 i hi, e i hi]⟩
/-- the cells of a list, by their indexes. -/
def CLs (W : World) (cb off L : Nat) (C : Nat → Nat) : Prop := ∀ i, i < L → cb < W.heap.size ∧ W.cell? ⟨cb, off + i * 2, none⟩ = some (.int .i64 ((C i % 8 : Nat) : Int)) ∧ W.cell? ⟨cb, off + i * 2 + 1, none⟩ = some (.int .i64 ((C i / 8 : Nat) : Int))
theorem CLs.apart {W W' : World} {cb off L b : Nat} {C : Nat → Nat} (h : CLs W cb off L C) (hne : cb ≠ b) (ha : Apart b (b + 1) W W') : CLs W' cb off L C := fun i hi => by
  obtain ⟨h0, h1, h2⟩ := h i hi
  have hz := ha.size
  refine ⟨by omega, ?_, ?_⟩
  · rw [ha.cell (by show cb < _; omega) (by show cb < b ∨ b + 1 ≤ cb; omega)]; exact h1
  · rw [ha.cell (by show cb < _; omega) (by show cb < b ∨ b + 1 ≤ cb; omega)]; exact h2
/-- what a call leaves. -/
def PPost (v : Int) (ub L : Nat) (u : Nat → Bool) (w : World) (e : Ending) (w' : World) : Prop := e = .returned (.int .i64 v) ∧ Bks w' ub L u ∧ Apart ub (ub + 1) w w'
theorem wrap64_one : wrap64 1 = 1 := by unfold wrap64; omega
theorem wrap64_zero : wrap64 0 = 0 := by unfold wrap64; omega

end Go.Proofs.YtmaghekcpopepaaDoor.Cnt

/- The model's count of partial tilings: one call. -/
namespace Go.Proofs.YtmaghekcpopepaaDoor.Cnt
set_option linter.unusedVariables false
set_option linter.unusedSimpArgs false
open Go.RowKit Go.Proofs.YtmaghekcpopepaaDoor.Base Go.Proofs.YtmaghekcpopepaaDoor.Pure Go.Proofs.YtmaghekcpopepaaDoor.Cell Go.Proofs.YtmaghekcpopepaaDoor.CellN Go.Proofs.YtmaghekcpopepaaDoor.Reg Go.Joins

/-- what the test of two places reads. -/
def QS (w : World) (cb off L ub : Nat) (C : Nat → Nat) (u : Nat → Bool) (f k : Nat) (W : World) : Prop := (Bks W ub L u ∧ Apart ub (ub + 1) w W ∧ cb < W.heap.size) ∧ W.cell? ⟨ub, k, none⟩ = some (.bool false) ∧ W.cell? ⟨cb, off + f * 2, none⟩ = some (.int .i64 ((C f % 8 : Nat) : Int)) ∧ W.cell? ⟨cb, off + f * 2 + 1, none⟩ = some (.int .i64 ((C f / 8 : Nat) : Int)) ∧ W.cell? ⟨cb, off + k * 2, none⟩ = some (.int .i64 ((C k % 8 : Nat) : Int)) ∧ W.cell? ⟨cb, off + k * 2 + 1, none⟩ = some (.int .i64 ((C k / 8 : Nat) : Int))
theorem QS.on {w W W' : World} {cb off L ub f k : Nat} {C : Nat → Nat} {u : Nat → Bool} (h : QS w cb off L ub C u f k W) (hb : Below W.heap.size W W') : QS w cb off L ub C u f k W' := by
  obtain ⟨⟨a1, a2, a3⟩, b0, b1, b2, b3, b4⟩ := h
  have hl := a1.lt
  have hz := hb.size
  refine ⟨⟨a1.on hb, a2.trans (apart_of_below hb _ _), by omega⟩, ?_, ?_, ?_, ?_, ?_⟩
  · exact (hb.cell (by show ub < _; omega)).trans b0
  · exact (hb.cell (by show cb < _; omega)).trans b1
  · exact (hb.cell (by show cb < _; omega)).trans b2
  · exact (hb.cell (by show cb < _; omega)).trans b3
  · exact (hb.cell (by show cb < _; omega)).trans b4
theorem QS.drew {w W : World} {cb off L ub f k : Nat} {C : Nat → Nat} {u : Nat → Bool} (h : QS w cb off L ub C u f k W) : QS w cb off L ub C u f k W.drew := h.on (drewN_below (Below.refl _ _) 1)
theorem wrap64_add2 (a b : Int) : wrap64 (wrap64 a + wrap64 b) = wrap64 (a + b) := by unfold wrap64; omega
theorem nb_adj {a b : Nat} (ha : a < 64) (hb : b < 64) : nbB ((a % 8 : Nat) : Int) ((a / 8 : Nat) : Int) ((b % 8 : Nat) : Int) ((b / 8 : Nat) : Int) = adj a b := by
  rw [Bool.eq_iff_iff, nbB_iff, adj_iff]
  unfold Ok
  omega

end Go.Proofs.YtmaghekcpopepaaDoor.Cnt

/- The model's CountTilings, IsTileable, RectangleCount, CountPartials. -/
namespace Go.Proofs.YtmaghekcpopepaaDoor.Prof
set_option linter.unusedVariables false
set_option maxRecDepth 100000
set_option linter.unusedSimpArgs false
open Go.RowKit Go.Proofs.YtmaghekcpopepaaDoor.Base Go.Proofs.YtmaghekcpopepaaDoor.Pure Go.Proofs.YtmaghekcpopepaaDoor.Cell Go.Proofs.YtmaghekcpopepaaDoor.Cels Go.Proofs.YtmaghekcpopepaaDoor.Reg Go.Proofs.YtmaghekcpopepaaDoor.Cnt Go.Joins

set_option maxRecDepth 100000 in
set_option maxHeartbeats 1000000 in
theorem sCountTilings (w : World) (A : Option Addr) (n cap B : Nat) (xs : List Int) (hx : xs.length = n) (hn : (n : Int) ≤ 9223372036854775807) (h : RowB w B A xs) (hB : B ≤ w.heap.size) :
    Calls Tryd.prog 42 #[.agg #[.slice A n cap]] w (Num (tilesR xs) w) := by
  have T0 := Lib.hid (fun (T : TypeId) => rb_start (T := T) (.slice A n cap) w)
  have HOk := Lib.hid (fun W (hb : RB w (.slice A n cap) W) => sRegionOk W A n cap B xs hx hn (h.below hb.1 hB) (by have := hb.2.1; omega))
  have HC := Lib.hid (fun W (ho : okR xs) (hb : RB w (.slice A n cap) W) => show Calls Tryd.prog 55 #[.agg #[.slice A n cap]] W (Num (tilesR xs) W) from by rw [tilesR_ok ho]; exact sCount W A n cap B xs hx ho (h.below hb.1 hB) (by have := hb.2.1; omega))
  by_cases ho : okR xs
  · rw [okRB_of ho] at HOk
    have HC1 := Lib.hid (fun W (hb : RB w (.slice A n cap) W) => HC.out W ho hb)
    generalize tilesR xs = t at HC1 ⊢
    clear hx hn h ho HC
    go_enter Tryd.func42, Tryd.ntmps42
    go_wp2_with fail
    refine (HOk.out _ (T0.out _)).mono ?_
    rintro e w1 ⟨rfl, hb1⟩
    have T1 := (T0.out 26).on hb1
    have c1 := T1.2.2
    clear T0 HOk hb1
    go_wp2_with fail
    refine (HC1.out _ T1).mono ?_
    rintro e w2 ⟨rfl, hb2⟩
    have T2 := T1.on hb2
    clear T1 c1 HC1 hb2
    go_wp2
    go_ret
    exact ⟨rfl, T2.1⟩
  · rw [okRB_not ho] at HOk
    have HE := Lib.hid (tilesR_not ho)
    clear hx hn h ho HC
    go_enter Tryd.func42, Tryd.ntmps42
    go_wp2_with fail
    refine (HOk.out _ (T0.out _)).mono ?_
    rintro e w1 ⟨rfl, hb1⟩
    have T1 := (T0.out 26).on hb1
    clear T0 HOk hb1
    go_wp2
    go_ret
    exact mkNum HE.out.symm T1.1

theorem boolInfo : (Tryd.prog.info? 4).map (fun i => (i.zero, i.size, i.bytes)) = some (some (.bool false), 1, 1) := by kernel_rfl
/-- marks just made. -/
theorem bks_made {W : World} {base b L : Nat} (h : W.ownsRow base 4 1 (.slice (some ⟨b, 0, none⟩) L L) L (madeCells (Value.bool false).cells (L * 1)).toList) : Bks W b L (fun _ => false) := by
  rw [show (Value.bool false).cells = #[.bool false] from rfl, Nat.mul_one, toList_madeCells_one] at h
  rcases h.2 with ⟨h', _⟩ | ⟨g', cap', cur, h', _, hg, hsz, hz2, hcs, htake⟩
  · simp at h'
  · simp only [Value.slice.injEq, Option.some.injEq, Addr.mk.injEq, and_true, true_and] at h'
    obtain ⟨rfl, rfl⟩ := h'
    refine ⟨cur, _, hg, by omega, fun i hi => ?_⟩
    have := h.cells (g := b) rfl i (.bool false) (by rw [List.getElem?_replicate]; simp [hi])
    rw [add_plain] at this
    unfold World.cell? at this
    simpa [hg] using this
theorem below_of_apart {B lo hi : Nat} {w w' : World} (h : Apart lo hi w w') (hB : B ≤ lo) (hw : lo ≤ w.heap.size) : Below B w w' :=
  ⟨h.os, h.tape, h.output, h.size, fun k hk => h.block k (by omega) (Or.inl (by omega))⟩
/-- the list of the cells, as the count of partial tilings reads it. -/
theorem cls_of {W : World} {base : Nat} {A1 : Option Addr} {M c1 : Nat} {xs : List Int} (ho : okR xs) (hM : M = (idxs xs).length) (h : W.ownsRow base 68 2 (.slice A1 M c1) M (rowC (cellsR xs))) (hz : 0 < W.heap.size) :
    ∃ cb, (0 < M → A1 = some ⟨cb, 0, none⟩) ∧ cb < W.heap.size ∧ ∀ W', Below W.heap.size W W' → CLs W' cb 0 M (plcN xs) := by
  by_cases h0 : M = 0
  · exact ⟨0, fun q => by omega, hz, fun W' _ i hi => by omega⟩
  · obtain ⟨nb, c', hv1, _, hlt⟩ := h.form (by omega)
    injection hv1 with hA2 hm2 hc2
    subst hA2
    refine ⟨nb, fun _ => rfl, hlt, fun W' hb i hi => ?_⟩
    obtain ⟨q1, q2⟩ := rowC_at _ _ _ ((cells_idx ho).2 i (by omega))
    have hz' := hb.size
    refine ⟨by omega, ?_, ?_⟩
    · rw [Nat.zero_add]; exact (hb.cell (by show nb < _; omega)).trans (own_at h q1)
    · rw [Nat.zero_add]; exact (hb.cell (by show nb < _; omega)).trans (own_at h q2)

end Go.Proofs.YtmaghekcpopepaaDoor.Prof
