/- DefC, DefB, DefA, DefM, DefQ, DefO in one text. -/
import Derived.Test.YtgkgdgchkhdgjaaDoorMgDfL
import Derived.Test.YtgkgdgchkhdgjaaDoorRegCel
import Derived.Test.YtgkgdgchkhdgjaaDoorRegCl
import Derived.Test.YtgkgdgchkhdgjaaDoorCellF
import Derived.Test.YtgkgdgchkhdgjaaDoorCellN
import Derived.BigQuiet
import Derived.Deep.QuietTactic
import Derived.OrdersHeld
import Derived.Deep.RegionHeld3
import Derived.Deep.Cut
import Derived.OwnWalk
import Derived.Laws.OwnMore
import Derived.Laws.AppendOwn
import Derived.Deep.AppendLies
import Derived.Deep.DeepAppendRoom
import Derived.Deep.LoopGhost
import Derived.Test.YtgkgdgchkhdgjaaDoorRegF
import Derived.Test.YtgkgdgchkhdgjaaDoorRegM
import Derived.Deep.Slices
import Derived.Deep.Strs
import Derived.OpenShut

/- Lists of cells as arguments; what chapter 10 asks of them, pure; the model's l10Has and l10Blacks. -/
namespace Go.Proofs.YtgkgdgchkhdgjaaDoor.Def
set_option linter.unusedVariables false
set_option linter.unusedSimpArgs false
set_option maxRecDepth 100000
open Go.RowKit Go.Proofs.YtgkgdgchkhdgjaaDoor.Base Go.Proofs.YtgkgdgchkhdgjaaDoor.Pure Go.Proofs.YtgkgdgchkhdgjaaDoor.Cell Go.Proofs.YtgkgdgchkhdgjaaDoor.CellF Go.Proofs.YtgkgdgchkhdgjaaDoor.CellN Go.Proofs.YtgkgdgchkhdgjaaDoor.Cels Go.Joins
open Go.Proofs.YtgkgdgchkhdgjaaDoor.Reg hiding Yes RC rc_start

/-- cells in a row that an argument names. -/
def RowK (w : World) (B : Nat) (A : Option Addr) (L : List (Int × Int)) : Prop :=
  ∃ b off : Nat, (0 < L.length → A = some ⟨b, off, none⟩ ∧ b < B) ∧ ∀ j p, L[j]? = some p → w.cell? ⟨b, off + j * 2, none⟩ = some (.int .i64 p.1) ∧ w.cell? ⟨b, off + j * 2 + 1, none⟩ = some (.int .i64 p.2)
theorem RowK.below {w w' : World} {B B' : Nat} {A : Option Addr} {L : List (Int × Int)} (h : RowK w B A L) (hb : Below B' w w') (hB : B ≤ B') : RowK w' B A L := by
  obtain ⟨b, off, h1, h2⟩ := h
  refine ⟨b, off, h1, fun j p hp => ?_⟩
  have hl : 0 < L.length := by
    rcases Nat.eq_zero_or_pos L.length with h0 | h0
    · rw [List.eq_nil_of_length_eq_zero h0] at hp; simp at hp
    · exact h0
  have hlt : b < B' := Nat.lt_of_lt_of_le (h1 hl).2 hB
  rw [hb.cell (p := ⟨b, off + j * 2, none⟩) hlt, hb.cell (p := ⟨b, off + j * 2 + 1, none⟩) hlt]
  exact h2 j p hp
/-- a cell's box. -/
def KB (w : World) (x y : Int) (W : World) : Prop :=
  Below w.heap.size w W ∧ w.heap.size < W.heap.size ∧ W.cell? ⟨w.heap.size, 0, none⟩ = some (.int .i64 x) ∧ W.cell? ⟨w.heap.size, 1, none⟩ = some (.int .i64 y)
theorem kb_start {T : TypeId} (x y : Int) (w : World) : KB w x y (w.alloc (.cells #[.int .i64 x, .int .i64 y] T)) := by
  have e2 : (w.alloc (.cells #[.int .i64 x, .int .i64 y] T)).heap[w.heap.size]? = some (.cells #[.int .i64 x, .int .i64 y] T) := by
    show (w.heap.push _)[w.heap.size]? = _
    exact Array.getElem?_push_size
  exact ⟨below_alloc1 w _, by simp, (cell_of_row _ _ 0 _ _ _ e2).trans rfl, (cell_of_row _ _ 1 _ _ _ e2).trans rfl⟩
theorem KB.drew {w W : World} {x y : Int} (h : KB w x y W) : KB w x y W.drew := ⟨h.1.drew, h.2⟩
theorem KB.on {w W W' : World} {x y : Int} (h : KB w x y W) (hb : Below W.heap.size W W') : KB w x y W' := by
  obtain ⟨h0, h1, h3, h4⟩ := h
  have hz := hb.size
  refine ⟨h0.trans (hb.mono h0.size), by omega, ?_, ?_⟩
  · rw [hb.cell (by show w.heap.size < _; omega)]; exact h3
  · rw [hb.cell (by show w.heap.size < _; omega)]; exact h4
end Go.Proofs.YtgkgdgchkhdgjaaDoor.Def

/- The model's l10Blacks: are all of these black cells of the region? -/
namespace Go.Proofs.YtgkgdgchkhdgjaaDoor.Def
set_option linter.unusedVariables false
set_option linter.unusedSimpArgs false
set_option maxRecDepth 100000
open Go.RowKit Go.Proofs.YtgkgdgchkhdgjaaDoor.Base Go.Proofs.YtgkgdgchkhdgjaaDoor.Pure Go.Proofs.YtgkgdgchkhdgjaaDoor.Cell Go.Proofs.YtgkgdgchkhdgjaaDoor.CellF Go.Proofs.YtgkgdgchkhdgjaaDoor.CellN Go.Proofs.YtgkgdgchkhdgjaaDoor.Cels Go.Joins
open Go.Proofs.YtgkgdgchkhdgjaaDoor.Reg hiding Yes RC rc_start

set_option maxHeartbeats 4000000 in
theorem sL10Blacks (w : World) (A : Option Addr) (n cap B : Nat) (xs : List Int) (hx : xs.length = n) (hn : (n : Int) ≤ 9223372036854775807) (h : RowB w B A xs) (hB : B ≤ w.heap.size)
    (A' : Option Addr) (m cap' B' : Nat) (L : List (Int × Int)) (hL : L.length = m) (hm : (m : Int) ≤ 9223372036854775807) (h' : RowK w B' A' L) (hB' : B' ≤ w.heap.size) :
    Calls Tryd.prog 42 #[.agg #[.slice A n cap], .slice A' m cap'] w (Bol (okBl xs L) w) := by
  have T0 := Lib.hid (fun (T : TypeId) => rb_start (T := T) (.slice A n cap) w)
  have HH := Lib.hid (fun W (hb : RB w (.slice A n cap) W) x y => sHasCell W A n cap B xs hx hn (h.below hb.1 hB) (by have := hb.2.1; omega) x y)
  have HOk := Lib.hid (fun W (hb : RB w (.slice A n cap) W) => sRegionOk W A n cap B xs hx hn (h.below hb.1 hB) (by have := hb.2.1; omega))
  obtain ⟨b, off, hA, hc⟩ := h'
  have HA := Lib.hid (fun (h0 : 0 < m) => hA (by omega))
  have HC := Lib.hid hc
  have HL := Lib.hid hL
  clear hA hc hL hx hn h hB
  go_enter Tryd.func42, Tryd.ntmps42
  go_wp2_with fail
  go_loopw [5] (fun i wr => ∃ k : Nat, k ≤ m ∧ i = .int .i64 k ∧ RB w (.slice A n cap) wr ∧ Hid (OkK xs L k)) (fun i _ => m - (intOf i).toNat)
  case atStart => exact ⟨0, Nat.zero_le _, rfl, T0.out _, Lib.hid (OkK.zero xs L)⟩
  case round =>
    clear T0
    obtain ⟨k, hk, rfl, R1, HN⟩ := hrel
    by_cases hlt : k < m
    · have hkL : k < L.length := by rw [HL.out]; exact hlt
      obtain ⟨rfl, hbB⟩ := HA.out (by omega)
      obtain ⟨e0, e1⟩ := HC.out k L[k] (List.getElem?_eq_getElem hkL)
      have HNx := Lib.hid (fun h1 h2 => HN.out.next hkL h1 h2)
      have HNn := Lib.hid (fun h1 => okBl_no (xs := xs) hkL h1)
      generalize L[k] = p at e0 e1 HNx HNn
      obtain ⟨u, v⟩ := p
      simp only at e0 e1 HNx HNn
      have HE0 := Lib.hid e0
      have HE1 := Lib.hid e1
      have HHs := Lib.hid (fun W hb => HH.out W hb u v)
      have HBl := Lib.hid (fun W => sIsBlack u v W)
      clear e0 e1 HN
      cases hh : hasB xs u v with
      | false =>
        have HNo := Lib.hid (HNn.out (by rw [hh]; rfl))
        rw [hh] at HHs
        clear hh HNx HNn HH
        go_upto_region 4 with fail
        refine wp_region_noPanic ?_
        have R2 := R1.on (drewN_below (Below.refl _ wr) 1)
        refine wp_region_held_drew (S := (fun w' => w'.cell? ⟨w.heap.size, 0, none⟩ = some (.slice A n cap) ∧ w'.cell? ⟨b, off + k * 2, none⟩ = some (.int .i64 u) ∧ w'.cell? ⟨b, off + k * 2 + 1, none⟩ = some (.int .i64 v))) (by kernel_rfl) (⟨R2.2.2, (R2.1.cell (p := ⟨b, off + k * 2, none⟩) (by show b < _; omega)).trans HE0.out, (R2.1.cell (p := ⟨b, off + k * 2 + 1, none⟩) (by show b < _; omega)).trans HE1.out⟩) (fun hHeld => ?_)
        change RB w (.slice A n cap) wr.drew at R2
        generalize wr.drew = WR at R2 hHeld ⊢
        clear R1
        refine wpAnyH_take (i := 0) (v := ?_) rfl (by kernel_rfl) (by kernel_rfl) (by kernel_rfl) (fun _ _ _ h => h) (Or.inl ⟨by rfl, ?_⟩) (by assumption) ?_
        rotate_left
        · (intro w' hS; (try dsimp only at hS); go_simp; try with_reducible rfl)
        try simp only [Act.put, List.getElem_toArray, List.getElem_cons_succ, List.getElem_cons_zero, List.setIfInBounds_toArray, List.set_cons_zero, List.set_cons_succ]
        refine wpAnyH_take (i := 1) (v := ?_) rfl (by kernel_rfl) (by kernel_rfl) (by kernel_rfl) (fun _ _ _ h => h) (Or.inl ⟨by rfl, ?_⟩) (by assumption) ?_
        rotate_left
        · (intro w' hS; (try dsimp only at hS); go_simp; try with_reducible rfl)
        try simp only [Act.put, List.getElem_toArray, List.getElem_cons_succ, List.getElem_cons_zero, List.setIfInBounds_toArray, List.set_cons_zero, List.set_cons_succ]
        refine wpAnyH_take (i := 2) (v := ?_) rfl (by kernel_rfl) (by kernel_rfl) (by kernel_rfl) (fun _ _ _ h => h) (Or.inl ⟨by rfl, ?_⟩) (by assumption) ?_
        rotate_left
        · (intro w' hS; (try dsimp only at hS); go_simp; try with_reducible rfl)
        try simp only [Act.put, List.getElem_toArray, List.getElem_cons_succ, List.getElem_cons_zero, List.setIfInBounds_toArray, List.set_cons_zero, List.set_cons_succ]
        refine wpAnyH_take (i := 3) (v := ?_) rfl (by kernel_rfl) (by kernel_rfl) (by kernel_rfl) (fun _ _ _ h => h) (Or.inl ⟨by rfl, ?_⟩) (by assumption) ?_
        rotate_left
        · (intro w' hS; (try dsimp only at hS); go_simp; try with_reducible rfl)
        try simp only [Act.put, List.getElem_toArray, List.getElem_cons_succ, List.getElem_cons_zero, List.setIfInBounds_toArray, List.set_cons_zero, List.set_cons_succ]
        refine wpAnyH_take (i := 4) (v := ?_) rfl (by kernel_rfl) (by kernel_rfl) (by kernel_rfl) (fun _ _ _ h => h) (Or.inl ⟨by rfl, ?_⟩) (by assumption) ?_
        rotate_left
        · (intro w' hS; (try dsimp only at hS); go_simp; try with_reducible rfl)
        try simp only [Act.put, List.getElem_toArray, List.getElem_cons_succ, List.getElem_cons_zero, List.setIfInBounds_toArray, List.set_cons_zero, List.set_cons_succ]
        refine wpAnyH_ready (rs := [5]) (by kernel_rfl) (by simp) ?_
        refine AllReadyH.cons rfl (fun K hK => ?_) AllReadyH.nil
        go_simp
        refine (HHs.out _ R2).mono ?_
        rintro e wx ⟨rfl, hb3⟩
        have R3 := R2.on hb3
        clear R2 hb3
        go_wp2_with fail
        refine hK.out _ _ (⟨R3.2.2, (R3.1.cell (p := ⟨b, off + k * 2, none⟩) (by show b < _; omega)).trans HE0.out, (R3.1.cell (p := ⟨b, off + k * 2 + 1, none⟩) (by show b < _; omega)).trans HE1.out⟩) (fun hHeld => ?_)
        clear hK K
        try simp only [Act.put, List.getElem_toArray, List.getElem_cons_succ, List.getElem_cons_zero, List.setIfInBounds_toArray, List.set_cons_zero, List.set_cons_succ]
        refine wpAnyH_take (i := 6) (v := ?_) rfl (by kernel_rfl) (by kernel_rfl) (by kernel_rfl) (fun _ _ _ h => h) (Or.inl ⟨by rfl, ?_⟩) (by assumption) ?_
        rotate_left
        · (intro w' hS; (try dsimp only at hS); go_simp; try with_reducible rfl)
        try simp only [Act.put, List.getElem_toArray, List.getElem_cons_succ, List.getElem_cons_zero, List.setIfInBounds_toArray, List.set_cons_zero, List.set_cons_succ]
        refine wpAnyH_take (i := 7) (v := ?_) rfl (by kernel_rfl) (by kernel_rfl) (by kernel_rfl) (fun _ _ _ h => h) (Or.inl ⟨by rfl, ?_⟩) (by assumption) ?_
        rotate_left
        · (intro w' hS; (try dsimp only at hS); go_simp; try with_reducible rfl)
        try simp only [Act.put, List.getElem_toArray, List.getElem_cons_succ, List.getElem_cons_zero, List.setIfInBounds_toArray, List.set_cons_zero, List.set_cons_succ]
        refine wpAnyH_take (i := 8) (v := undef) rfl (by kernel_rfl) (by kernel_rfl) (by kernel_rfl) (fun _ _ _ h => h) (Or.inr ⟨by rfl, rfl⟩) (by assumption) ?_
        try simp only [Act.put, List.getElem_toArray, List.getElem_cons_succ, List.getElem_cons_zero, List.setIfInBounds_toArray, List.set_cons_zero, List.set_cons_succ]
        refine wpAnyH_take (i := 9) (v := undef) rfl (by kernel_rfl) (by kernel_rfl) (by kernel_rfl) (fun _ _ _ h => h) (Or.inr ⟨by rfl, rfl⟩) (by assumption) ?_
        try simp only [Act.put, List.getElem_toArray, List.getElem_cons_succ, List.getElem_cons_zero, List.setIfInBounds_toArray, List.set_cons_zero, List.set_cons_succ]
        refine wpAnyH_take (i := 10) (v := undef) rfl (by kernel_rfl) (by kernel_rfl) (by kernel_rfl) (fun _ _ _ h => h) (Or.inr ⟨by rfl, rfl⟩) (by assumption) ?_
        try simp only [Act.put, List.getElem_toArray, List.getElem_cons_succ, List.getElem_cons_zero, List.setIfInBounds_toArray, List.set_cons_zero, List.set_cons_succ]
        refine wpAnyH_take (i := 11) (v := undef) rfl (by kernel_rfl) (by kernel_rfl) (by kernel_rfl) (fun _ _ _ h => h) (Or.inr ⟨by rfl, rfl⟩) (by assumption) ?_
        try simp only [Act.put, List.getElem_toArray, List.getElem_cons_succ, List.getElem_cons_zero, List.setIfInBounds_toArray, List.set_cons_zero, List.set_cons_succ]
        refine wpAnyH_take (i := 12) (v := undef) rfl (by kernel_rfl) (by kernel_rfl) (by kernel_rfl) (fun _ _ _ h => h) (Or.inr ⟨by rfl, rfl⟩) (by assumption) ?_
        try simp only [Act.put, List.getElem_toArray, List.getElem_cons_succ, List.getElem_cons_zero, List.setIfInBounds_toArray, List.set_cons_zero, List.set_cons_succ]
        refine wpAnyH_take (i := 13) (v := undef) rfl (by kernel_rfl) (by kernel_rfl) (by kernel_rfl) (fun _ _ _ h => h) (Or.inr ⟨by rfl, rfl⟩) (by assumption) ?_
        try simp only [Act.put, List.getElem_toArray, List.getElem_cons_succ, List.getElem_cons_zero, List.setIfInBounds_toArray, List.set_cons_zero, List.set_cons_succ]
        refine wpAnyH_take (i := 14) (v := ?_) rfl (by kernel_rfl) (by kernel_rfl) (by kernel_rfl) (fun _ _ _ h => h) (Or.inl ⟨by rfl, ?_⟩) (by assumption) ?_
        rotate_left
        · (intro w' hS; (try dsimp only at hS); go_simp; try with_reducible rfl)
        try simp only [Act.put, List.getElem_toArray, List.getElem_cons_succ, List.getElem_cons_zero, List.setIfInBounds_toArray, List.set_cons_zero, List.set_cons_succ]
        refine wpAnyH_done (by kernel_rfl) ?_ _
        refine NoPanic.normal ?_
        clear hHeld
        have RX := R3
        clear R3
        go_wp2
        go_ret
        exact mkBol HNo.out.symm RX.1
      | true =>
        rw [hh] at HHs
        cases hq : blackB u v with
        | false =>
          have HNo := Lib.hid (HNn.out (by rw [hh, hq]; rfl))
          rw [hq] at HBl
          clear hh hq HNx HNn HH
          go_upto_region 4 with fail
          refine wp_region_noPanic ?_
          have R2 := R1.on (drewN_below (Below.refl _ wr) 1)
          refine wp_region_held_drew (S := (fun w' => w'.cell? ⟨w.heap.size, 0, none⟩ = some (.slice A n cap) ∧ w'.cell? ⟨b, off + k * 2, none⟩ = some (.int .i64 u) ∧ w'.cell? ⟨b, off + k * 2 + 1, none⟩ = some (.int .i64 v))) (by kernel_rfl) (⟨R2.2.2, (R2.1.cell (p := ⟨b, off + k * 2, none⟩) (by show b < _; omega)).trans HE0.out, (R2.1.cell (p := ⟨b, off + k * 2 + 1, none⟩) (by show b < _; omega)).trans HE1.out⟩) (fun hHeld => ?_)
          change RB w (.slice A n cap) wr.drew at R2
          generalize wr.drew = WR at R2 hHeld ⊢
          clear R1
          refine wpAnyH_take (i := 0) (v := ?_) rfl (by kernel_rfl) (by kernel_rfl) (by kernel_rfl) (fun _ _ _ h => h) (Or.inl ⟨by rfl, ?_⟩) (by assumption) ?_
          rotate_left
          · (intro w' hS; (try dsimp only at hS); go_simp; try with_reducible rfl)
          try simp only [Act.put, List.getElem_toArray, List.getElem_cons_succ, List.getElem_cons_zero, List.setIfInBounds_toArray, List.set_cons_zero, List.set_cons_succ]
          refine wpAnyH_take (i := 1) (v := ?_) rfl (by kernel_rfl) (by kernel_rfl) (by kernel_rfl) (fun _ _ _ h => h) (Or.inl ⟨by rfl, ?_⟩) (by assumption) ?_
          rotate_left
          · (intro w' hS; (try dsimp only at hS); go_simp; try with_reducible rfl)
          try simp only [Act.put, List.getElem_toArray, List.getElem_cons_succ, List.getElem_cons_zero, List.setIfInBounds_toArray, List.set_cons_zero, List.set_cons_succ]
          refine wpAnyH_take (i := 2) (v := ?_) rfl (by kernel_rfl) (by kernel_rfl) (by kernel_rfl) (fun _ _ _ h => h) (Or.inl ⟨by rfl, ?_⟩) (by assumption) ?_
          rotate_left
          · (intro w' hS; (try dsimp only at hS); go_simp; try with_reducible rfl)
          try simp only [Act.put, List.getElem_toArray, List.getElem_cons_succ, List.getElem_cons_zero, List.setIfInBounds_toArray, List.set_cons_zero, List.set_cons_succ]
          refine wpAnyH_take (i := 3) (v := ?_) rfl (by kernel_rfl) (by kernel_rfl) (by kernel_rfl) (fun _ _ _ h => h) (Or.inl ⟨by rfl, ?_⟩) (by assumption) ?_
          rotate_left
          · (intro w' hS; (try dsimp only at hS); go_simp; try with_reducible rfl)
          try simp only [Act.put, List.getElem_toArray, List.getElem_cons_succ, List.getElem_cons_zero, List.setIfInBounds_toArray, List.set_cons_zero, List.set_cons_succ]
          refine wpAnyH_take (i := 4) (v := ?_) rfl (by kernel_rfl) (by kernel_rfl) (by kernel_rfl) (fun _ _ _ h => h) (Or.inl ⟨by rfl, ?_⟩) (by assumption) ?_
          rotate_left
          · (intro w' hS; (try dsimp only at hS); go_simp; try with_reducible rfl)
          try simp only [Act.put, List.getElem_toArray, List.getElem_cons_succ, List.getElem_cons_zero, List.setIfInBounds_toArray, List.set_cons_zero, List.set_cons_succ]
          refine wpAnyH_ready (rs := [5]) (by kernel_rfl) (by simp) ?_
          refine AllReadyH.cons rfl (fun K hK => ?_) AllReadyH.nil
          go_simp
          refine (HHs.out _ R2).mono ?_
          rintro e wx ⟨rfl, hb3⟩
          have R3 := R2.on hb3
          clear R2 hb3
          go_wp2_with fail
          refine hK.out _ _ (⟨R3.2.2, (R3.1.cell (p := ⟨b, off + k * 2, none⟩) (by show b < _; omega)).trans HE0.out, (R3.1.cell (p := ⟨b, off + k * 2 + 1, none⟩) (by show b < _; omega)).trans HE1.out⟩) (fun hHeld => ?_)
          clear hK K
          try simp only [Act.put, List.getElem_toArray, List.getElem_cons_succ, List.getElem_cons_zero, List.setIfInBounds_toArray, List.set_cons_zero, List.set_cons_succ]
          refine wpAnyH_take (i := 6) (v := ?_) rfl (by kernel_rfl) (by kernel_rfl) (by kernel_rfl) (fun _ _ _ h => h) (Or.inl ⟨by rfl, ?_⟩) (by assumption) ?_
          rotate_left
          · (intro w' hS; (try dsimp only at hS); go_simp; try with_reducible rfl)
          try simp only [Act.put, List.getElem_toArray, List.getElem_cons_succ, List.getElem_cons_zero, List.setIfInBounds_toArray, List.set_cons_zero, List.set_cons_succ]
          refine wpAnyH_take (i := 7) (v := ?_) rfl (by kernel_rfl) (by kernel_rfl) (by kernel_rfl) (fun _ _ _ h => h) (Or.inl ⟨by rfl, ?_⟩) (by assumption) ?_
          rotate_left
          · (intro w' hS; (try dsimp only at hS); go_simp; try with_reducible rfl)
          try simp only [Act.put, List.getElem_toArray, List.getElem_cons_succ, List.getElem_cons_zero, List.setIfInBounds_toArray, List.set_cons_zero, List.set_cons_succ]
          refine wpAnyH_take (i := 8) (v := ?_) rfl (by kernel_rfl) (by kernel_rfl) (by kernel_rfl) (fun _ _ _ h => h) (Or.inl ⟨by rfl, ?_⟩) (by assumption) ?_
          rotate_left
          · (intro w' hS; (try dsimp only at hS); go_simp; try with_reducible rfl)
          try simp only [Act.put, List.getElem_toArray, List.getElem_cons_succ, List.getElem_cons_zero, List.setIfInBounds_toArray, List.set_cons_zero, List.set_cons_succ]
          refine wpAnyH_take (i := 9) (v := ?_) rfl (by kernel_rfl) (by kernel_rfl) (by kernel_rfl) (fun _ _ _ h => h) (Or.inl ⟨by rfl, ?_⟩) (by assumption) ?_
          rotate_left
          · (intro w' hS; (try dsimp only at hS); go_simp; try with_reducible rfl)
          try simp only [Act.put, List.getElem_toArray, List.getElem_cons_succ, List.getElem_cons_zero, List.setIfInBounds_toArray, List.set_cons_zero, List.set_cons_succ]
          refine wpAnyH_take (i := 10) (v := ?_) rfl (by kernel_rfl) (by kernel_rfl) (by kernel_rfl) (fun _ _ _ h => h) (Or.inl ⟨by rfl, ?_⟩) (by assumption) ?_
          rotate_left
          · (intro w' hS; (try dsimp only at hS); go_simp; try with_reducible rfl)
          try simp only [Act.put, List.getElem_toArray, List.getElem_cons_succ, List.getElem_cons_zero, List.setIfInBounds_toArray, List.set_cons_zero, List.set_cons_succ]
          refine wpAnyH_take (i := 11) (v := ?_) rfl (by kernel_rfl) (by kernel_rfl) (by kernel_rfl) (fun _ _ _ h => h) (Or.inl ⟨by rfl, ?_⟩) (by assumption) ?_
          rotate_left
          · (intro w' hS; (try dsimp only at hS); go_simp; try with_reducible rfl)
          try simp only [Act.put, List.getElem_toArray, List.getElem_cons_succ, List.getElem_cons_zero, List.setIfInBounds_toArray, List.set_cons_zero, List.set_cons_succ]
          refine wpAnyH_ready (rs := [12]) (by kernel_rfl) (by simp) ?_
          refine AllReadyH.cons rfl (fun K hK => ?_) AllReadyH.nil
          go_simp
          refine (HBl.out _).mono ?_
          rintro e wx ⟨rfl, hb4⟩
          have R4 := R3.on hb4
          clear R3 hb4
          go_wp2_with fail
          refine hK.out _ _ (⟨R4.2.2, (R4.1.cell (p := ⟨b, off + k * 2, none⟩) (by show b < _; omega)).trans HE0.out, (R4.1.cell (p := ⟨b, off + k * 2 + 1, none⟩) (by show b < _; omega)).trans HE1.out⟩) (fun hHeld => ?_)
          clear hK K
          try simp only [Act.put, List.getElem_toArray, List.getElem_cons_succ, List.getElem_cons_zero, List.setIfInBounds_toArray, List.set_cons_zero, List.set_cons_succ]
          refine wpAnyH_take (i := 13) (v := ?_) rfl (by kernel_rfl) (by kernel_rfl) (by kernel_rfl) (fun _ _ _ h => h) (Or.inl ⟨by rfl, ?_⟩) (by assumption) ?_
          rotate_left
          · (intro w' hS; (try dsimp only at hS); go_simp; try with_reducible rfl)
          try simp only [Act.put, List.getElem_toArray, List.getElem_cons_succ, List.getElem_cons_zero, List.setIfInBounds_toArray, List.set_cons_zero, List.set_cons_succ]
          refine wpAnyH_take (i := 14) (v := ?_) rfl (by kernel_rfl) (by kernel_rfl) (by kernel_rfl) (fun _ _ _ h => h) (Or.inl ⟨by rfl, ?_⟩) (by assumption) ?_
          rotate_left
          · (intro w' hS; (try dsimp only at hS); go_simp; try with_reducible rfl)
          try simp only [Act.put, List.getElem_toArray, List.getElem_cons_succ, List.getElem_cons_zero, List.setIfInBounds_toArray, List.set_cons_zero, List.set_cons_succ]
          refine wpAnyH_done (by kernel_rfl) ?_ _
          refine NoPanic.normal ?_
          clear hHeld
          have RX := R4
          clear R4
          go_wp2
          go_ret
          exact mkBol HNo.out.symm RX.1
        | true =>
          have HYes := Lib.hid (HNx.out hh hq)
          rw [hq] at HBl
          clear hh hq HNx HNn HH
          go_upto_region 4 with fail
          refine wp_region_noPanic ?_
          have R2 := R1.on (drewN_below (Below.refl _ wr) 1)
          refine wp_region_held_drew (S := (fun w' => w'.cell? ⟨w.heap.size, 0, none⟩ = some (.slice A n cap) ∧ w'.cell? ⟨b, off + k * 2, none⟩ = some (.int .i64 u) ∧ w'.cell? ⟨b, off + k * 2 + 1, none⟩ = some (.int .i64 v))) (by kernel_rfl) (⟨R2.2.2, (R2.1.cell (p := ⟨b, off + k * 2, none⟩) (by show b < _; omega)).trans HE0.out, (R2.1.cell (p := ⟨b, off + k * 2 + 1, none⟩) (by show b < _; omega)).trans HE1.out⟩) (fun hHeld => ?_)
          change RB w (.slice A n cap) wr.drew at R2
          generalize wr.drew = WR at R2 hHeld ⊢
          clear R1
          refine wpAnyH_take (i := 0) (v := ?_) rfl (by kernel_rfl) (by kernel_rfl) (by kernel_rfl) (fun _ _ _ h => h) (Or.inl ⟨by rfl, ?_⟩) (by assumption) ?_
          rotate_left
          · (intro w' hS; (try dsimp only at hS); go_simp; try with_reducible rfl)
          try simp only [Act.put, List.getElem_toArray, List.getElem_cons_succ, List.getElem_cons_zero, List.setIfInBounds_toArray, List.set_cons_zero, List.set_cons_succ]
          refine wpAnyH_take (i := 1) (v := ?_) rfl (by kernel_rfl) (by kernel_rfl) (by kernel_rfl) (fun _ _ _ h => h) (Or.inl ⟨by rfl, ?_⟩) (by assumption) ?_
          rotate_left
          · (intro w' hS; (try dsimp only at hS); go_simp; try with_reducible rfl)
          try simp only [Act.put, List.getElem_toArray, List.getElem_cons_succ, List.getElem_cons_zero, List.setIfInBounds_toArray, List.set_cons_zero, List.set_cons_succ]
          refine wpAnyH_take (i := 2) (v := ?_) rfl (by kernel_rfl) (by kernel_rfl) (by kernel_rfl) (fun _ _ _ h => h) (Or.inl ⟨by rfl, ?_⟩) (by assumption) ?_
          rotate_left
          · (intro w' hS; (try dsimp only at hS); go_simp; try with_reducible rfl)
          try simp only [Act.put, List.getElem_toArray, List.getElem_cons_succ, List.getElem_cons_zero, List.setIfInBounds_toArray, List.set_cons_zero, List.set_cons_succ]
          refine wpAnyH_take (i := 3) (v := ?_) rfl (by kernel_rfl) (by kernel_rfl) (by kernel_rfl) (fun _ _ _ h => h) (Or.inl ⟨by rfl, ?_⟩) (by assumption) ?_
          rotate_left
          · (intro w' hS; (try dsimp only at hS); go_simp; try with_reducible rfl)
          try simp only [Act.put, List.getElem_toArray, List.getElem_cons_succ, List.getElem_cons_zero, List.setIfInBounds_toArray, List.set_cons_zero, List.set_cons_succ]
          refine wpAnyH_take (i := 4) (v := ?_) rfl (by kernel_rfl) (by kernel_rfl) (by kernel_rfl) (fun _ _ _ h => h) (Or.inl ⟨by rfl, ?_⟩) (by assumption) ?_
          rotate_left
          · (intro w' hS; (try dsimp only at hS); go_simp; try with_reducible rfl)
          try simp only [Act.put, List.getElem_toArray, List.getElem_cons_succ, List.getElem_cons_zero, List.setIfInBounds_toArray, List.set_cons_zero, List.set_cons_succ]
          refine wpAnyH_ready (rs := [5]) (by kernel_rfl) (by simp) ?_
          refine AllReadyH.cons rfl (fun K hK => ?_) AllReadyH.nil
          go_simp
          refine (HHs.out _ R2).mono ?_
          rintro e wx ⟨rfl, hb3⟩
          have R3 := R2.on hb3
          clear R2 hb3
          go_wp2_with fail
          refine hK.out _ _ (⟨R3.2.2, (R3.1.cell (p := ⟨b, off + k * 2, none⟩) (by show b < _; omega)).trans HE0.out, (R3.1.cell (p := ⟨b, off + k * 2 + 1, none⟩) (by show b < _; omega)).trans HE1.out⟩) (fun hHeld => ?_)
          clear hK K
          try simp only [Act.put, List.getElem_toArray, List.getElem_cons_succ, List.getElem_cons_zero, List.setIfInBounds_toArray, List.set_cons_zero, List.set_cons_succ]
          refine wpAnyH_take (i := 6) (v := ?_) rfl (by kernel_rfl) (by kernel_rfl) (by kernel_rfl) (fun _ _ _ h => h) (Or.inl ⟨by rfl, ?_⟩) (by assumption) ?_
          rotate_left
          · (intro w' hS; (try dsimp only at hS); go_simp; try with_reducible rfl)
          try simp only [Act.put, List.getElem_toArray, List.getElem_cons_succ, List.getElem_cons_zero, List.setIfInBounds_toArray, List.set_cons_zero, List.set_cons_succ]
          refine wpAnyH_take (i := 7) (v := ?_) rfl (by kernel_rfl) (by kernel_rfl) (by kernel_rfl) (fun _ _ _ h => h) (Or.inl ⟨by rfl, ?_⟩) (by assumption) ?_
          rotate_left
          · (intro w' hS; (try dsimp only at hS); go_simp; try with_reducible rfl)
          try simp only [Act.put, List.getElem_toArray, List.getElem_cons_succ, List.getElem_cons_zero, List.setIfInBounds_toArray, List.set_cons_zero, List.set_cons_succ]
          refine wpAnyH_take (i := 8) (v := ?_) rfl (by kernel_rfl) (by kernel_rfl) (by kernel_rfl) (fun _ _ _ h => h) (Or.inl ⟨by rfl, ?_⟩) (by assumption) ?_
          rotate_left
          · (intro w' hS; (try dsimp only at hS); go_simp; try with_reducible rfl)
          try simp only [Act.put, List.getElem_toArray, List.getElem_cons_succ, List.getElem_cons_zero, List.setIfInBounds_toArray, List.set_cons_zero, List.set_cons_succ]
          refine wpAnyH_take (i := 9) (v := ?_) rfl (by kernel_rfl) (by kernel_rfl) (by kernel_rfl) (fun _ _ _ h => h) (Or.inl ⟨by rfl, ?_⟩) (by assumption) ?_
          rotate_left
          · (intro w' hS; (try dsimp only at hS); go_simp; try with_reducible rfl)
          try simp only [Act.put, List.getElem_toArray, List.getElem_cons_succ, List.getElem_cons_zero, List.setIfInBounds_toArray, List.set_cons_zero, List.set_cons_succ]
          refine wpAnyH_take (i := 10) (v := ?_) rfl (by kernel_rfl) (by kernel_rfl) (by kernel_rfl) (fun _ _ _ h => h) (Or.inl ⟨by rfl, ?_⟩) (by assumption) ?_
          rotate_left
          · (intro w' hS; (try dsimp only at hS); go_simp; try with_reducible rfl)
          try simp only [Act.put, List.getElem_toArray, List.getElem_cons_succ, List.getElem_cons_zero, List.setIfInBounds_toArray, List.set_cons_zero, List.set_cons_succ]
          refine wpAnyH_take (i := 11) (v := ?_) rfl (by kernel_rfl) (by kernel_rfl) (by kernel_rfl) (fun _ _ _ h => h) (Or.inl ⟨by rfl, ?_⟩) (by assumption) ?_
          rotate_left
          · (intro w' hS; (try dsimp only at hS); go_simp; try with_reducible rfl)
          try simp only [Act.put, List.getElem_toArray, List.getElem_cons_succ, List.getElem_cons_zero, List.setIfInBounds_toArray, List.set_cons_zero, List.set_cons_succ]
          refine wpAnyH_ready (rs := [12]) (by kernel_rfl) (by simp) ?_
          refine AllReadyH.cons rfl (fun K hK => ?_) AllReadyH.nil
          go_simp
          refine (HBl.out _).mono ?_
          rintro e wx ⟨rfl, hb4⟩
          have R4 := R3.on hb4
          clear R3 hb4
          go_wp2_with fail
          refine hK.out _ _ (⟨R4.2.2, (R4.1.cell (p := ⟨b, off + k * 2, none⟩) (by show b < _; omega)).trans HE0.out, (R4.1.cell (p := ⟨b, off + k * 2 + 1, none⟩) (by show b < _; omega)).trans HE1.out⟩) (fun hHeld => ?_)
          clear hK K
          try simp only [Act.put, List.getElem_toArray, List.getElem_cons_succ, List.getElem_cons_zero, List.setIfInBounds_toArray, List.set_cons_zero, List.set_cons_succ]
          refine wpAnyH_take (i := 13) (v := ?_) rfl (by kernel_rfl) (by kernel_rfl) (by kernel_rfl) (fun _ _ _ h => h) (Or.inl ⟨by rfl, ?_⟩) (by assumption) ?_
          rotate_left
          · (intro w' hS; (try dsimp only at hS); go_simp; try with_reducible rfl)
          try simp only [Act.put, List.getElem_toArray, List.getElem_cons_succ, List.getElem_cons_zero, List.setIfInBounds_toArray, List.set_cons_zero, List.set_cons_succ]
          refine wpAnyH_take (i := 14) (v := ?_) rfl (by kernel_rfl) (by kernel_rfl) (by kernel_rfl) (fun _ _ _ h => h) (Or.inl ⟨by rfl, ?_⟩) (by assumption) ?_
          rotate_left
          · (intro w' hS; (try dsimp only at hS); go_simp; try with_reducible rfl)
          try simp only [Act.put, List.getElem_toArray, List.getElem_cons_succ, List.getElem_cons_zero, List.setIfInBounds_toArray, List.set_cons_zero, List.set_cons_succ]
          refine wpAnyH_done (by kernel_rfl) ?_ _
          refine NoPanic.normal ?_
          clear hHeld
          have RX := R4
          clear R4
          go_wp2
          go_roundw
          case rel => exact ⟨k + 1, by omega, by go_num, RX, HYes⟩
          case measure => (simp [intOf] <;> omega)
    · obtain rfl : k = m := by omega
      have HE := Lib.hid (HN.out.fin (by rw [HL.out]; exact Nat.le_refl _))
      have c0 := R1.2.2
      clear HN
      go_wp2_with fail
      refine (HOk.out _ R1).mono ?_
      rintro e w3 ⟨rfl, hb3⟩
      have RX := R1.on hb3
      clear R1 c0 hb3
      go_wp2
      go_ret
      exact mkBol HE.out.symm RX.1
end Go.Proofs.YtgkgdgchkhdgjaaDoor.Def

/- The model's WhiteAround. -/
namespace Go.Proofs.YtgkgdgchkhdgjaaDoor.Def
set_option linter.unusedVariables false
set_option linter.unusedSimpArgs false
set_option maxRecDepth 100000
open Go.RowKit Go.Proofs.YtgkgdgchkhdgjaaDoor.Base Go.Proofs.YtgkgdgchkhdgjaaDoor.Pure Go.Proofs.YtgkgdgchkhdgjaaDoor.Cell Go.Proofs.YtgkgdgchkhdgjaaDoor.CellF Go.Proofs.YtgkgdgchkhdgjaaDoor.CellN Go.Proofs.YtgkgdgchkhdgjaaDoor.Cels Go.Joins
open Go.Proofs.YtgkgdgchkhdgjaaDoor.Reg hiding Yes RC rc_start

/-- cells in block b can be read. -/
def Rd (W : World) (b off : Nat) (C : List (Int × Int)) : Prop :=
  (0 < C.length → b < W.heap.size) ∧ ∀ j p, C[j]? = some p → W.cell? ⟨b, off + j * 2, none⟩ = some (.int .i64 p.1) ∧ W.cell? ⟨b, off + j * 2 + 1, none⟩ = some (.int .i64 p.2)
theorem Rd.same {W W' : World} {b off : Nat} {C : List (Int × Int)} (h : Rd W b off C) (hz : W.heap.size ≤ W'.heap.size) (hb : 0 < C.length → W'.heap[b]? = W.heap[b]?) : Rd W' b off C := by
  refine ⟨fun h0 => Nat.lt_of_lt_of_le (h.1 h0) hz, fun j p hp => ?_⟩
  have h0 : 0 < C.length := by have := (List.getElem?_eq_some_iff.1 hp).1; omega
  obtain ⟨a, c⟩ := h.2 j p hp
  exact ⟨(World.cell?_of_block (a := ⟨b, off + j * 2, none⟩) (hb h0)).trans a, (World.cell?_of_block (a := ⟨b, off + j * 2 + 1, none⟩) (hb h0)).trans c⟩
theorem Rd.on {W W' : World} {b off : Nat} {C : List (Int × Int)} (h : Rd W b off C) (hb : Below W.heap.size W W') : Rd W' b off C := h.same hb.size fun h0 => hb.block b (h.1 h0)
theorem Rd.grown {W W' : World} {b off g : Nat} {C : List (Int × Int)} (h : Rd W b off C) (hg : W.grownBy W' (some g)) (hne : 0 < C.length → g ≠ b) : Rd W' b off C :=
  h.same hg.size fun h0 => hg.block b (h.1 h0) (by intro e; injection e with e; exact hne h0 e.symm)

set_option maxHeartbeats 4000000 in
theorem sWhiteAround (w : World) (A : Option Addr) (n cap B : Nat) (xs : List Int) (hx : xs.length = n) (hn : (n : Int) ≤ 9223372036854775807) (h : RowB w B A xs) (hB : B ≤ w.heap.size)
    (A' : Option Addr) (m cap' B' : Nat) (L : List (Int × Int)) (hL : L.length = m) (hm : (m : Int) ≤ 9223372036854775807) (h' : RowK w B' A' L) (hB' : B' ≤ w.heap.size) :
    Calls Tryd.prog 19 #[.agg #[.slice A n cap], .slice A' m cap'] w (NbPost (whtR xs L) w) := by
  obtain ⟨i0, hi, hz0, hz1, hz2⟩ := info_parts cellInfo
  have HM := Lib.hid (fun (W : World) => World.ownsRow_made (e := 33) (size := 2) W #[] 0 (Nat.le_refl _) (by unfold maxLen; omega) rfl)
  have HQ := Lib.hid (fun W (hb : Below w.heap.size w W) => sL10Blacks W A n cap B xs hx hn (h.below hb hB) (by have := hb.size; omega) A' m cap' B' L hL hm (h'.below hb hB') (by have := hb.size; omega))
  have HC := Lib.hid (fun W (hb : Below w.heap.size w W) => sCellsOf W A n cap B xs hx hn (h.below hb hB) (by have := hb.size; omega))
  have T0 := Lib.hid (fun (T : TypeId) => rb_start (T := T) (.slice A n cap) w)
  obtain ⟨b2, off2, hA2, hc2⟩ := h'
  have HA2 := Lib.hid (fun (h0 : 0 < m) => hA2 (by omega))
  have HC2 := Lib.hid hc2
  have HL := Lib.hid hL
  have HLC := cellsR_length xs
  clear hA2 hc2 hL hx hn h hB
  cases hq : okBl xs L with
  | false =>
    have HE := Lib.hid (whtR_not hq)
    rw [hq] at HQ
    clear hq HC HLC
    go_enter Tryd.func19, Tryd.ntmps19
    go_wp2_with fail
    have T1 := T0.out 26
    have O1 := HM.out (w.alloc (.cells #[.slice A n cap] 26))
    have z1 : (w.alloc (.cells #[.slice A n cap] 26)).heap.size = w.heap.size + 1 := by simp
    rw [z1] at O1
    have T2 := T1.on (below_alloc1 _ (.cells #[] 33))
    generalize (w.alloc (.cells #[.slice A n cap] 26)).alloc (.cells #[] 33) = W1 at T2 O1 ⊢
    clear T0 T1 HM z1
    refine (HQ.out _ T2.1).mono ?_
    rintro e w3 ⟨rfl, hb3⟩
    have HT3 := Lib.hid (T2.on hb3)
    have HO3 := Lib.hid (Reg.own_base (Reg.own_below O1 hb3 (Nat.le_refl _)) (Nat.le_succ _))
    clear T2 O1 hb3 HQ
    go_wp2
    go_ret
    rw [HE.out]
    exact ⟨_, _, rfl, HO3.out, HT3.out.1⟩
  | true =>
    have HFin := Lib.hid (fun k (hk : (cellsR xs).length ≤ k) => whtK_fin (L := L) hk hq)
    have HYes := Lib.hid (fun k (hk : k < (cellsR xs).length) hh => whtK_yes (L := L) hk hh)
    have HNot := Lib.hid (fun k (hk : k < (cellsR xs).length) hh => whtK_no (L := L) hk hh)
    have HKl := Lib.hid (fun k => show (whtK xs L k).length ≤ (cellsR xs).length by unfold whtK; exact Nat.le_trans (List.length_filter_le _ _) (by rw [List.length_take]; omega))
    have HK0 := Lib.hid (whtK_zero xs L)
    generalize whtK xs L = K at HFin HYes HNot HKl HK0
    generalize whtR xs L = F at HFin ⊢
    generalize cellsR xs = C at HC HLC HFin HYes HNot HKl
    rw [hq] at HQ
    clear hq
    go_enter Tryd.func19, Tryd.ntmps19
    go_wp2_with fail
    have T1 := T0.out 26
    have O1 := HM.out (w.alloc (.cells #[.slice A n cap] 26))
    have z1 : (w.alloc (.cells #[.slice A n cap] 26)).heap.size = w.heap.size + 1 := by simp
    rw [z1] at O1
    have T2 := T1.on (below_alloc1 _ (.cells #[] 33))
    have z2 : ((w.alloc (.cells #[.slice A n cap] 26)).alloc (.cells #[] 33)).heap.size = w.heap.size + 2 := by simp
    generalize (w.alloc (.cells #[.slice A n cap] 26)).alloc (.cells #[] 33) = W1 at T2 O1 z2 ⊢
    clear T0 T1 HM z1
    refine (HQ.out _ T2.1).mono ?_
    rintro e w3 ⟨rfl, hb3⟩
    have T3 := T2.on hb3
    have O3 := Reg.own_below O1 hb3 (Nat.le_refl _)
    have z3 := hb3.size
    clear T2 O1 hb3 HQ
    have c0 := T3.2.2
    go_wp2_with fail
    refine (HC.out _ T3.1).mono ?_
    rintro e w4 ⟨A1, cap1, rfl, hown1, hb4⟩
    have B4 := T3.1.trans (hb4.mono T3.1.size)
    have O4 := Reg.own_base (B' := w.heap.size + 1) (Reg.own_below O3 hb4 (Nat.le_refl _)) (Nat.le_refl _)
    obtain ⟨b, off, hA1, hR1⟩ := rowC_own hown1
    have R4 : Rd w4 b off C := ⟨fun h0 => (hA1 h0).2, hR1⟩
    have hbb : 0 < C.length → w.heap.size + 2 ≤ b := fun h0 => by
      obtain ⟨g, c, hv, hg, _⟩ := hown1.form h0
      have e := (hA1 h0).1
      rw [e] at hv
      injection hv with hv
      injection hv with hv
      injection hv with hv
      omega
    have HA1 := Lib.hid (fun h0 => (hA1 h0).1)
    have HOwn0 := Lib.hid O4
    have HR4 := Lib.hid R4
    have HB4 := Lib.hid B4
    have HBb := Lib.hid hbb
    obtain ⟨N, hN⟩ : ∃ N, N = C.length := ⟨_, rfl⟩
    rw [← hN] at HLC HA1 HBb HKl HFin ⊢
    have HN := Lib.hid hN
    clear T3 O3 c0 hown1 hb4 B4 O4 hA1 hR1 R4 hbb HC hN z2 z3
    go_wp2_with fail
    go_loopg [5, 7] N (fun gg vo i wr => ∃ k g c : Nat, k + gg = N ∧ i = .int .i64 k ∧ vo = .slice (some ⟨g, 0, none⟩) (K k).length c ∧ Hid (wr.ownsRow (w.heap.size + 1) 33 2 vo (K k).length (rowC (K k))) ∧ Below w.heap.size w wr ∧ Rd wr b off C ∧ Hid (0 < N → g ≠ b))
    case atStart => exact ⟨0, w.heap.size + 1, 0, by omega, rfl, by rw [HK0.out]; rfl, by rw [HK0.out]; exact HOwn0, HB4.out, HR4.out, Lib.hid (fun h0 => by have := HBb.out h0; omega)⟩
    case round =>
      clear HOwn0 HR4 HB4
      obtain ⟨k, g, cg, hk, rfl, rfl, HOw, hb, R1, HG⟩ := hrel
      by_cases hlt : k < N
      · obtain rfl := HA1.out (by omega)
        have hkC : k < C.length := by rw [← HN.out]; exact hlt
        have HX := Lib.hid (List.getElem?_eq_getElem hkC)
        have HYk := Lib.hid (fun hh => HYes.out k hkC hh)
        have HNk := Lib.hid (fun hh => HNot.out k hkC hh)
        have HKk := HKl.out k
        generalize C[k] = cc at HX HYk HNk
        obtain ⟨x, y⟩ := cc
        have HNs := Lib.hid (fun (hh : ∀ j (hj : j < L.length), nbB x y L[j].1 L[j].2 = false) => HNk.out (arL_no hh))
        have HYs := Lib.hid (fun j (hj : j < L.length) (hh : nbB x y L[j].1 L[j].2 = true) => HYk.out (arL_yes hj hh))
        generalize hU : K k = U at HOw HYs HNs HKk
        have HU := Lib.hid hU
        have HB := Lib.hid hb
        have HR := Lib.hid R1
        have HOw2 := HOw
        clear hU HYk HNk hb R1 HOw
        go_wp2_with fail
        go_loopg [5, 8] m (fun gg vo i wr2 => ∃ s : Nat, s + gg = m ∧ i = .int .i64 s ∧ vo = .slice (some ⟨g, 0, none⟩) U.length cg ∧ Hid (wr2.ownsRow (w.heap.size + 1) 33 2 (.slice (some ⟨g, 0, none⟩) U.length cg) U.length (rowC U)) ∧ Below w.heap.size w wr2 ∧ Rd wr2 b off C ∧ Hid (∀ j (hj : j < L.length), j < s → nbB x y L[j].1 L[j].2 = false))
        case atStart => exact ⟨0, by omega, rfl, rfl, HOw2, HB.out, HR.out, Lib.hid (fun j hj h => by omega)⟩
        case round =>
          clear HOw2 HB HR
          obtain ⟨s, hs, rfl, rfl, HOw, B2, R2, HS⟩ := hrel
          by_cases hsm : s < m
          · have hsL : s < L.length := by rw [HL.out]; exact hsm
            obtain ⟨rfl, hbB⟩ := HA2.out (by omega)
            obtain ⟨e0, e1⟩ := HC2.out s L[s] (List.getElem?_eq_getElem hsL)
            have HSn := Lib.hid (fun (hh : nbB x y L[s].1 L[s].2 = false) => show ∀ j (hj : j < L.length), j < s + 1 → nbB x y L[j].1 L[j].2 = false from fun j hj h1 => by
              by_cases e : j = s
              · subst e; exact hh
              · exact HS.out j hj (by omega))
            have HYn := Lib.hid (fun hh => HYs.out s hsL hh)
            generalize L[s] = p at e0 e1 HSn HYn
            obtain ⟨u, v⟩ := p
            simp only at e0 e1 HSn HYn
            have HE0 := Lib.hid e0
            have HE1 := Lib.hid e1
            have HAj := Lib.hid (fun W => sAreNeighbors x y u v W)
            generalize nbB x y u v = z at HSn HYn HAj
            clear e0 e1 HS
            go_upto_region 11 with fail
            refine wp_region_noPanic ?_
            have B3 : Below w.heap.size w wr.drew := B2.drew
            have R3 : Rd wr.drew b off C := R2
            have O3 : wr.drew.ownsRow (w.heap.size + 1) 33 2 (.slice (some ⟨g, 0, none⟩) U.length cg) U.length (rowC U) := HOw.out
            refine wp_region_held_drew (S := (fun w' => w'.cell? ⟨b, off + k * 2, none⟩ = some (.int .i64 x) ∧ w'.cell? ⟨b, off + k * 2 + 1, none⟩ = some (.int .i64 y) ∧ w'.cell? ⟨b2, off2 + s * 2, none⟩ = some (.int .i64 u) ∧ w'.cell? ⟨b2, off2 + s * 2 + 1, none⟩ = some (.int .i64 v))) (by kernel_rfl) (⟨(R3.2 k (x, y) HX.out).1, (R3.2 k (x, y) HX.out).2, (B3.cell (p := ⟨b2, off2 + s * 2, none⟩) (by show b2 < _; omega)).trans HE0.out, (B3.cell (p := ⟨b2, off2 + s * 2 + 1, none⟩) (by show b2 < _; omega)).trans HE1.out⟩) (fun hHeld => ?_)
            generalize wr.drew = WR at B3 R3 O3 hHeld ⊢
            clear B2 R2 HOw
            refine wpAnyH_take (i := 0) (v := ?_) rfl (by kernel_rfl) (by kernel_rfl) (by kernel_rfl) (fun _ _ _ h => h) (Or.inl ⟨by rfl, ?_⟩) (by assumption) ?_
            rotate_left
            · (intro w' hS; (try dsimp only at hS); go_simp; try with_reducible rfl)
            try simp only [Act.put, List.getElem_toArray, List.getElem_cons_succ, List.getElem_cons_zero, List.setIfInBounds_toArray, List.set_cons_zero, List.set_cons_succ]
            refine wpAnyH_take (i := 1) (v := ?_) rfl (by kernel_rfl) (by kernel_rfl) (by kernel_rfl) (fun _ _ _ h => h) (Or.inl ⟨by rfl, ?_⟩) (by assumption) ?_
            rotate_left
            · (intro w' hS; (try dsimp only at hS); go_simp; try with_reducible rfl)
            try simp only [Act.put, List.getElem_toArray, List.getElem_cons_succ, List.getElem_cons_zero, List.setIfInBounds_toArray, List.set_cons_zero, List.set_cons_succ]
            refine wpAnyH_take (i := 2) (v := ?_) rfl (by kernel_rfl) (by kernel_rfl) (by kernel_rfl) (fun _ _ _ h => h) (Or.inl ⟨by rfl, ?_⟩) (by assumption) ?_
            rotate_left
            · (intro w' hS; (try dsimp only at hS); go_simp; try with_reducible rfl)
            try simp only [Act.put, List.getElem_toArray, List.getElem_cons_succ, List.getElem_cons_zero, List.setIfInBounds_toArray, List.set_cons_zero, List.set_cons_succ]
            refine wpAnyH_take (i := 3) (v := ?_) rfl (by kernel_rfl) (by kernel_rfl) (by kernel_rfl) (fun _ _ _ h => h) (Or.inl ⟨by rfl, ?_⟩) (by assumption) ?_
            rotate_left
            · (intro w' hS; (try dsimp only at hS); go_simp; try with_reducible rfl)
            try simp only [Act.put, List.getElem_toArray, List.getElem_cons_succ, List.getElem_cons_zero, List.setIfInBounds_toArray, List.set_cons_zero, List.set_cons_succ]
            refine wpAnyH_take (i := 4) (v := ?_) rfl (by kernel_rfl) (by kernel_rfl) (by kernel_rfl) (fun _ _ _ h => h) (Or.inl ⟨by rfl, ?_⟩) (by assumption) ?_
            rotate_left
            · (intro w' hS; (try dsimp only at hS); go_simp; try with_reducible rfl)
            try simp only [Act.put, List.getElem_toArray, List.getElem_cons_succ, List.getElem_cons_zero, List.setIfInBounds_toArray, List.set_cons_zero, List.set_cons_succ]
            refine wpAnyH_take (i := 5) (v := ?_) rfl (by kernel_rfl) (by kernel_rfl) (by kernel_rfl) (fun _ _ _ h => h) (Or.inl ⟨by rfl, ?_⟩) (by assumption) ?_
            rotate_left
            · (intro w' hS; (try dsimp only at hS); go_simp; try with_reducible rfl)
            try simp only [Act.put, List.getElem_toArray, List.getElem_cons_succ, List.getElem_cons_zero, List.setIfInBounds_toArray, List.set_cons_zero, List.set_cons_succ]
            refine wpAnyH_take (i := 6) (v := ?_) rfl (by kernel_rfl) (by kernel_rfl) (by kernel_rfl) (fun _ _ _ h => h) (Or.inl ⟨by rfl, ?_⟩) (by assumption) ?_
            rotate_left
            · (intro w' hS; (try dsimp only at hS); go_simp; try with_reducible rfl)
            try simp only [Act.put, List.getElem_toArray, List.getElem_cons_succ, List.getElem_cons_zero, List.setIfInBounds_toArray, List.set_cons_zero, List.set_cons_succ]
            refine wpAnyH_take (i := 7) (v := ?_) rfl (by kernel_rfl) (by kernel_rfl) (by kernel_rfl) (fun _ _ _ h => h) (Or.inl ⟨by rfl, ?_⟩) (by assumption) ?_
            rotate_left
            · (intro w' hS; (try dsimp only at hS); go_simp; try with_reducible rfl)
            try simp only [Act.put, List.getElem_toArray, List.getElem_cons_succ, List.getElem_cons_zero, List.setIfInBounds_toArray, List.set_cons_zero, List.set_cons_succ]
            refine wpAnyH_ready (rs := [8]) (by kernel_rfl) (by simp) ?_
            refine AllReadyH.cons rfl (fun K hK => ?_) AllReadyH.nil
            go_simp
            refine (HAj.out _).mono ?_
            rintro e wx ⟨rfl, hb4⟩
            have B4 := B3.trans (hb4.mono B3.size)
            have R4 := R3.on hb4
            have O4 := Reg.own_below O3 hb4 (Nat.le_refl _)
            clear B3 R3 O3 hb4
            go_wp2_with fail
            refine hK.out _ _ (⟨(R4.2 k (x, y) HX.out).1, (R4.2 k (x, y) HX.out).2, (B4.cell (p := ⟨b2, off2 + s * 2, none⟩) (by show b2 < _; omega)).trans HE0.out, (B4.cell (p := ⟨b2, off2 + s * 2 + 1, none⟩) (by show b2 < _; omega)).trans HE1.out⟩) (fun hHeld => ?_)
            clear hK K
            try simp only [Act.put, List.getElem_toArray, List.getElem_cons_succ, List.getElem_cons_zero, List.setIfInBounds_toArray, List.set_cons_zero, List.set_cons_succ]
            refine wpAnyH_done (by kernel_rfl) ?_ _
            refine NoPanic.normal ?_
            clear hHeld
            generalize wx = w2 at B4 R4 O4 ⊢
            cases z with
            | false =>
              have HS2 := Lib.hid (HSn.out rfl)
              have HO4 := Lib.hid O4
              clear HSn HYn O4
              go_wp2
              go_roundg (gk - 1)
              case measure => omega
              case rel => exact ⟨s + 1, by omega, by go_num, rfl, HO4, B4, R4, HS2⟩
            | true =>
              have HKn := Lib.hid (HYn.out rfl)
              have HO4 := Lib.hid O4
              have hs4 := B4.size
              obtain ⟨d0, d1⟩ := R4.2 k (x, y) HX.out
              simp only at d0 d1
              clear HSn HYn O4
              go_wp2_with (first
                | (at_builtin; refine wpList_append_lies _ rfl _ _ 28 rfl (w.heap.size + 1) 33 i0 (.agg #[.int .i64 0, .int .i64 0]) 2 16 Tryd.underlying28 hi hz0 hz1 hz2 rfl (by decide) (.slice (some ⟨g, 0, none⟩) U.length cg) U.length (rowC U) (by rfl) (HO4.out.alloc _) ⟨w2.heap.size, 0, none⟩ 1 1 [.int .i64 x, .int .i64 y] (by rfl) rfl (World.news_of_block (cs := #[.int .i64 x, .int .i64 y]) (t := 33) (fr := (0, 0)) (heap_alloc_new w2 _)) (by simp [Value.oneCell']) (by decide) (by unfold maxLen; omega) (by omega) (by simp; omega) (w2.heap.size + 1) (by simp) ?_; intro gg capn w3 hown3 hgrow hat hlt3))
              have hgg := HO4.out.lt g rfl
              have hb3 : Below w.heap.size w w3 := (B4.alloc (by omega) _).grown hgrow (by simp; omega) (fun k hk => by have hk2 : g = k := by { injection hk }; omega)
              have R5 : Rd w3 b off C := (R4.on (below_alloc1 w2 _)).grown hgrow (fun h0 => HG.out (by rw [HN.out]; exact h0))
              have HG3 := Lib.hid (show 0 < N → gg ≠ b from fun h0 => by
                rcases hat with e | e
                · injection e with e; subst e; exact HG.out h0
                · have := R4.1 (by rw [← HN.out]; exact h0); omega)
              have R := Lib.hid (show w3.ownsRow (w.heap.size + 1) 33 2 (.slice (some ⟨gg, 0, none⟩) (U ++ [(x, y)]).length capn) (U ++ [(x, y)]).length (rowC (U ++ [(x, y)])) by
                rw [rowC_snoc, List.length_append]; exact hown3)
              have HLn : (U ++ [(x, y)]).length = U.length + 1 := by simp
              clear hown3 hgrow hat hlt3 hgg R4 d0 d1 HO4 B4
              go_wp2
              go_roundg (N - (k + 1))
              case measure => omega
              case rel => exact ⟨k + 1, gg, capn, by omega, by go_num, by rw [HKn.out, HLn], by rw [HKn.out]; have := R.out; rw [HLn] at this ⊢; exact Lib.hid this, hb3, R5, HG3⟩
          · obtain rfl : s = m := by omega
            have HKn := Lib.hid (HNs.out (fun j hj => HS.out j hj (by rw [← HL.out]; exact hj)))
            clear HS HYs HNs
            go_wp2
            go_roundg (N - (k + 1))
            case measure => omega
            case rel => exact ⟨k + 1, g, cg, by omega, by go_num, by rw [HKn.out], by rw [HKn.out]; exact HOw, B2, R2, HG⟩
      · obtain rfl : k = N := by omega
        have HF := Lib.hid (HFin.out k (Nat.le_refl _))
        have HB := Lib.hid hb
        clear hb R1
        go_wp2
        go_ret
        rw [HF.out] at HOw ⊢
        exact ⟨_, _, rfl, Reg.own_base HOw.out (by omega), HB.out⟩
end Go.Proofs.YtgkgdgchkhdgjaaDoor.Def

/- What the laws do with slices of cells: one is measured, one is copied. -/
namespace Go.Proofs.YtgkgdgchkhdgjaaDoor.Def
set_option linter.unusedVariables false
set_option linter.unusedSimpArgs false
set_option maxRecDepth 100000
open Go.RowKit Go.Proofs.YtgkgdgchkhdgjaaDoor.Base Go.Proofs.YtgkgdgchkhdgjaaDoor.Pure Go.Proofs.YtgkgdgchkhdgjaaDoor.Cell Go.Proofs.YtgkgdgchkhdgjaaDoor.CellF Go.Proofs.YtgkgdgchkhdgjaaDoor.Cels Go.Joins
open Go.Proofs.YtgkgdgchkhdgjaaDoor.Reg hiding Yes RC rc_start

theorem made2 (n : Nat) : (madeCells #[.int .i64 0, .int .i64 0] (n * 2)).toList = rowC (List.replicate n (0, 0)) := by
  apply List.ext_getElem?
  intro j
  by_cases hj : j < n * 2
  · have h := rowC_at (List.replicate n (0, 0)) (j / 2) (0, 0) (by rw [List.getElem?_replicate]; simp; omega)
    obtain ⟨h0, h1⟩ := h
    simp only [madeCells, Array.toList_map, Array.toList_range, List.getElem?_map, List.getElem?_range hj, Option.map_some]
    have hc : j = j / 2 * 2 ∨ j = j / 2 * 2 + 1 := by omega
    rcases hc with e | e
    · rw [show j % (#[Value.int .i64 0, .int .i64 0] : Array Value).size = 0 by show j % 2 = 0; omega]
      rw [← e] at h0; rw [h0]; rfl
    · rw [show j % (#[Value.int .i64 0, .int .i64 0] : Array Value).size = 1 by show j % 2 = 1; omega]
      rw [← e] at h1; rw [h1]; rfl
  · rw [List.getElem?_eq_none (by simp [madeCells]; omega), List.getElem?_eq_none (by rw [rowC_length, List.length_replicate]; omega)]
theorem cl_step (L : List (Int × Int)) (n k : Nat) (hx : L.length = n) (hk : k < n) :
    ((rowC (L.take k ++ List.replicate (n - k) (0, 0))).set (k * 2) (.int .i64 L[k].1)).set (k * 2 + 1) (.int .i64 L[k].2) = rowC (L.take (k + 1) ++ List.replicate (n - (k + 1)) (0, 0)) := by
  rw [show n - k = (n - (k + 1)) + 1 by omega, List.replicate_succ, rowC_put (L.take k) (0, 0) L[k] _ k (by rw [List.length_take]; omega), List.take_succ_eq_append_getElem (by omega), List.append_assoc]
  rfl
set_option maxHeartbeats 400000 in
theorem szCellS (A : Option Addr) (n cap : Nat) (left : Int) (h0 : 0 ≤ left) (h1 : left ≤ 1048576) (hn : (n : Int) ≤ 9223372036854775807) (w : World) :
    Calls Tryd.prog 18 #[.slice A n cap, .int .i64 left] w fun e w' => e = .returned (.int .i64 (szR left n)) ∧ w' = w := by
  by_cases h : (n : Int) ≤ left
  · have HE := Lib.hid (show szR left n = left - n by unfold szR; rw [if_pos h])
    have h2 : ¬ left - (n : Int) < 0 := by omega
    go_enter Tryd.func18, Tryd.ntmps18
    go_wp2
    go_ret
    exact ⟨by rw [HE.out]; rfl, rfl⟩
  · have HE := Lib.hid (show szR left n = -1 by unfold szR; rw [if_neg h])
    have h2 : left - (n : Int) < 0 := by omega
    go_enter Tryd.func18, Tryd.ntmps18
    go_wp2
    go_ret
    exact ⟨by rw [HE.out]; rfl, rfl⟩
/-- cells in memory of the call's own. -/
def ClPost (L : List (Int × Int)) (n : Nat) (w : World) (e : Ending) (w' : World) : Prop :=
  ∃ A cap, e = .returned (.slice A n cap) ∧ n ≤ cap ∧ w'.ownsRow w.heap.size 33 2 (.slice A n cap) n (rowC L) ∧ Below w.heap.size w w'
set_option maxHeartbeats 1000000 in
theorem toCellS (w : World) (A : Option Addr) (n cap B : Nat) (L : List (Int × Int)) (hx : L.length = n) (hn : (n : Int) ≤ 1048576) (h : RowK w B A L) (hB : B ≤ w.heap.size) :
    Calls Tryd.prog 21 #[.slice A n cap] w (ClPost L n w) := by
  obtain ⟨i0, hi, hz0, hz1, hz2⟩ := info_parts cellInfo
  obtain ⟨b, off, hA, hc⟩ := h
  have HA := Lib.hid (fun (h0 : 0 < n) => hA (by omega))
  have HC := Lib.hid hc
  have HX := Lib.hid hx
  clear hA hc hx
  go_enter Tryd.func21, Tryd.ntmps21
  go_wp2_with (first
    | (at_make; refine wpList_make_full _ rfl _ _ 28 rfl w.heap.size 33 i0 (.agg #[.int .i64 0, .int .i64 0]) 2 Tryd.underlying28 hi hz0 hz1 .i64 .i64 (n : Int) (n : Int) n rfl rfl rfl rfl (by rw [hz2]; omega) (by unfold maxLen; omega) (by omega) ?_; intro w1 hown1 hg1))
  have hb1 : Below w.heap.size w w1 := (Below.refl _ _).grown hg1 (by omega) (by simp)
  have HO := Lib.hid (show w1.ownsRow w.heap.size 33 2 (.slice (some ⟨w.heap.size, 0, none⟩) n n) n (rowC (L.take 0 ++ List.replicate (n - 0) (0, 0))) by
    rw [show (Value.agg #[.int .i64 0, .int .i64 0]).cells = #[.int .i64 0, .int .i64 0] from rfl, made2] at hown1
    simpa using hown1)
  clear hown1 hg1 hi hz0 hz1 hz2
  go_loopw [4] (fun i wr => ∃ k : Nat, k ≤ n ∧ i = .int .i64 k ∧ wr.ownsRow w.heap.size 33 2 (.slice (some ⟨w.heap.size, 0, none⟩) n n) n (rowC (L.take k ++ List.replicate (n - k) (0, 0))) ∧ Below w.heap.size w wr) (fun i _ => n - (intOf i).toNat)
  case atStart => exact ⟨0, Nat.zero_le _, rfl, HO.out, hb1⟩
  case round =>
    clear HO hb1
    obtain ⟨k, hk, rfl, hown, hb⟩ := hrel
    have hbs := hb.size
    by_cases hlt : k < n
    · have hkx : k < L.length := by have := HX.out; omega
      obtain ⟨rfl, hbw⟩ := HA.out (by omega)
      obtain ⟨c0, c1⟩ := HC.out k L[k] (List.getElem?_eq_getElem hkx)
      have c0 := (hb.cell (p := ⟨b, off + k * 2, none⟩) (by show b < _; omega)).trans c0
      have c1 := (hb.cell (p := ⟨b, off + k * 2 + 1, none⟩) (by show b < _; omega)).trans c1
      have HST := Lib.hid (cl_step L n k HX.out hlt)
      generalize L[k] = d at c0 c1 HST
      obtain ⟨x, y⟩ := d
      simp only at c0 c1
      have HOwn := Lib.hid hown
      have HBw := Lib.hid hb
      clear hown hb
      go_wp2_with fail
      refine (toCell x y _).mono ?_
      rintro e w2 ⟨rfl, hb2⟩
      have hown := Reg.own_below HOwn.out hb2 (Nat.le_refl _)
      have hb := HBw.out.trans (hb2.mono hbs)
      have hu : ∀ m, m < n * 2 → ∃ u, w2.cell? ⟨w.heap.size, m, none⟩ = some u := fun m hm => by
        have hlen := hown.1
        rw [hown.cellAt m (by omega)]; exact ⟨_, List.getElem?_eq_getElem (by omega)⟩
      obtain ⟨u0, hu0⟩ := hu (k * 2) (by omega)
      obtain ⟨u1, hu1⟩ := hu (k * 2 + 1) (by omega)
      have hf0 := hown.frozenAt (k * 2)
      have hf1 := hown.frozenAt (k * 2 + 1)
      obtain ⟨hst, _⟩ := hown.stored (k * 2) (.int .i64 x)
      obtain ⟨hst, _⟩ := hst.stored (k * 2 + 1) (.int .i64 y)
      rw [HST.out] at hst
      have R := Lib.hid hst
      have hb3 := (hb.setCell (p := ⟨w.heap.size, k * 2, none⟩) (Nat.le_refl _) (.int .i64 x)).setCell (p := ⟨w.heap.size, k * 2 + 1, none⟩) (Nat.le_refl _) (.int .i64 y)
      have HB3 := Lib.hid hb3
      clear hown hst hb3 hb c0 c1 hb2 hu HOwn HBw HST
      go_wp2
      go_roundw
      case rel => exact ⟨k + 1, by omega, by go_num, R.out, HB3.out⟩
      case measure => (simp [intOf] <;> omega)
    · obtain rfl : k = n := by omega
      have R := Lib.hid (show wr.ownsRow w.heap.size 33 2 (.slice (some ⟨w.heap.size, 0, none⟩) k k) k (rowC L) by
        have e : rowC (L.take k ++ List.replicate (k - k) (0, 0)) = rowC L := by rw [List.take_of_length_le (by rw [HX.out]; omega), Nat.sub_self]; simp
        rw [e] at hown; exact hown)
      clear hown
      go_wp2
      go_ret
      exact ⟨_, _, rfl, Nat.le_refl _, R.out, hb⟩
theorem RowK.mono {w : World} {B B' : Nat} {A : Option Addr} {L : List (Int × Int)} (h : RowK w B A L) (hB : B ≤ B') : RowK w B' A L := by
  obtain ⟨b, off, h1, h2⟩ := h
  exact ⟨b, off, fun h0 => ⟨(h1 h0).1, by have := (h1 h0).2; omega⟩, h2⟩
theorem rowK_own {w : World} {base e n cap : Nat} {A : Option Addr} {L : List (Int × Int)} (h : w.ownsRow base e 2 (.slice A n cap) n (rowC L)) : RowK w w.heap.size A L := rowC_own h
theorem eqCellsK (w : World) (A A' : Option Addr) (n cap cap' : Nat) (L : List (Int × Int)) (hL : L.length = n) (hn : (n : Int) ≤ 1048576) (h1 : RowK w w.heap.size A L) (h2 : RowK w w.heap.size A' L) :
    Calls Tryd.prog 22 #[.slice A n cap, .slice A' n cap'] w (Bol true w) := by
  subst hL
  exact eqCells w A A' cap cap' L (by omega) h1 h2
end Go.Proofs.YtgkgdgchkhdgjaaDoor.Def

/- Numbers are written into a slice of cells, wherever it lies. -/
namespace Go.Proofs.YtgkgdgchkhdgjaaDoor.Def
set_option linter.unusedVariables false
set_option linter.unusedSimpArgs false
open Go.RowKit Go.Proofs.YtgkgdgchkhdgjaaDoor.Base Go.Proofs.YtgkgdgchkhdgjaaDoor.Pure Go.Proofs.YtgkgdgchkhdgjaaDoor.Cell Go.Proofs.YtgkgdgchkhdgjaaDoor.Cels Go.Joins
open Go.Proofs.YtgkgdgchkhdgjaaDoor.Reg hiding Yes RC rc_start

set_option maxRecDepth 100000 in
set_option maxHeartbeats 1000000 in
theorem markCellsA (w : World) (base hi k n cap : Nat) (A : Option Addr) (L : List (Int × Int)) (hn : ((k + 2 * n : Nat) : Int) ≤ 10000000) (hr : RowIn w base hi 33 2 (.slice A n cap) n (rowC L)) :
    Calls Tryd.prog 25 #[.slice A n cap, .int .i64 (k : Int)] w fun e w' => e = .returned (.int .i64 ((k + 2 * n : Nat) : Int)) ∧ RowIn w' base hi 33 2 (.slice A n cap) n (rowC (marksC k n)) ∧ Apart base hi w w' := by
  have hx : L.length = n := by have := hr.1.1; rw [rowC_length] at this; omega
  have HX := Lib.hid hx
  have HN := Lib.hid hn
  have HH := Lib.hid hr.2
  have HO := Lib.hid hr.1
  clear hx hr hn
  go_enter Tryd.func25, Tryd.ntmps25
  go_wp2_with fail
  go_loopw [1, 5] (fun m i wr => ∃ j : Nat, j ≤ n ∧ i = .int .i64 j ∧ m = .int .i64 ((k + 2 * j : Nat) : Int) ∧ wr.ownsRow base 33 2 (.slice A n cap) n (rowC (marksC k j ++ L.drop j)) ∧ Apart base hi w wr) (fun _ i _ => n - (intOf i).toNat)
  case atStart => exact ⟨0, Nat.zero_le _, rfl, rfl, by simpa [marksC] using HO.out, Apart.refl _ _ _⟩
  case round =>
    obtain ⟨j, hj, rfl, rfl, hown, hb⟩ := hrel
    have hm : ((k + 2 * j : Nat) : Int) ≤ 10000000 := by have := HN.out; omega
    by_cases hlt : j < n
    · obtain ⟨g, c, hv, hg1, hg2⟩ := hown.form (by omega)
      injection hv with hA hn1 hc1
      subst hA
      subst hc1
      have hu : ∀ m, m < n * 2 → ∃ u, wr.cell? ⟨g, m, none⟩ = some u := fun m hm => by
        have hlen := hown.1
        rw [hown.cellAt m (by omega)]; exact ⟨_, List.getElem?_eq_getElem (by omega)⟩
      obtain ⟨u0, hu0⟩ := hu (j * 2) (by omega)
      obtain ⟨u1, hu1⟩ := hu (j * 2 + 1) (by omega)
      have hf0 := hown.frozenAt (j * 2)
      have hf1 := hown.frozenAt (j * 2 + 1)
      obtain ⟨hst, _⟩ := hown.stored (j * 2) (.int .i64 ((k + 2 * j : Nat) : Int))
      obtain ⟨hst, _⟩ := hst.stored (j * 2 + 1) (.int .i64 ((k + 2 * j + 1 : Nat) : Int))
      rw [marksC_step k j n L HX.out hlt] at hst
      have hb3 := (hb.setCell (p := ⟨g, j * 2, none⟩) hg1 (HH.out g rfl) (.int .i64 ((k + 2 * j : Nat) : Int))).setCell (p := ⟨g, j * 2 + 1, none⟩) hg1 (HH.out g rfl) (.int .i64 ((k + 2 * j + 1 : Nat) : Int))
      have hk2 : ((k + 2 * (j + 1) : Nat) : Int) = ((k + 2 * j : Nat) : Int) + 2 := by omega
      have e1 : ((k + 2 * j + 1 : Nat) : Int) = ((k + 2 * j : Nat) : Int) + 1 := by omega
      rw [e1] at hst hb3
      have R := Lib.hid hst
      have HB := Lib.hid hb3
      have HK2 := Lib.hid hk2
      have hm0 : 0 ≤ ((k + 2 * j : Nat) : Int) := by omega
      have hnb : (n : Int) ≤ 10000000 := by have := HN.out; omega
      generalize ((k + 2 * j : Nat) : Int) = m at hm R HB HK2 hm0
      clear hown hst hb3 hb hu hk2 e1
      go_wp2
      go_roundw
      case rel => exact ⟨j + 1, by omega, by go_num, by rw [HK2.out]; go_num, R.out, HB.out⟩
      case measure => (simp [intOf] <;> omega)
    · obtain rfl : j = n := by omega
      have R := Lib.hid (show wr.ownsRow base 33 2 (.slice A j cap) j (rowC (marksC k j)) by
        have e : marksC k j ++ L.drop j = marksC k j := by rw [List.drop_eq_nil_of_le (by rw [HX.out]; omega), List.append_nil]
        rw [e] at hown; exact hown)
      clear hown
      go_wp2
      go_ret
      exact ⟨by go_num, ⟨R.out, HH.out⟩, hb⟩
theorem markCellsN (w : World) (base hi k n cap : Nat) (A : Option Addr) (L : List (Int × Int)) (k0 m : Int) (hk : k0 = (k : Int)) (hm : m = ((k + 2 * n : Nat) : Int)) (hn : m ≤ 10000000) (hr : RowIn w base hi 33 2 (.slice A n cap) n (rowC L)) :
    Calls Tryd.prog 25 #[.slice A n cap, .int .i64 k0] w fun e w' => e = .returned (.int .i64 m) ∧ RowIn w' base hi 33 2 (.slice A n cap) n (rowC (marksC k n)) ∧ Apart base hi w w' := by
  subst hm; subst hk
  exact markCellsA w base hi k n cap A L hn hr
end Go.Proofs.YtgkgdgchkhdgjaaDoor.Def

/- A slice of cells that comes in. -/
namespace Go.Proofs.YtgkgdgchkhdgjaaDoor.Def
set_option linter.unusedVariables false
set_option linter.unusedSimpArgs false
open Go.RowKit Go.Proofs.YtgkgdgchkhdgjaaDoor.Base Go.Proofs.YtgkgdgchkhdgjaaDoor.Cell Go.Joins Go.ChangeShapes Go.WideShapes Go.Deep

theorem add_plain' (b o j : Nat) : (⟨b, o, none⟩ : Addr).add j = ⟨b, o + j, none⟩ := by unfold Addr.add; split <;> simp_all
theorem open_cells {H : Type} {enc : TypeId × Value → H} {P : Program} {W : World} {held : Bool} {r : Reach} {b0 : Nat} {t e : TypeId} {f0 f1 : Field} {v : Value} {d : DataW H} {p : List MemPlace}
    (ht : P.underlying t = some (.slice e)) (he : P.underlying e = some (.struct #[f0, f1])) (hone : oneCellFields P #[f0, f1] = true) (hc : P.cellsOf e = 2)
    (k0 : P.underlying f0.type = some (.int .i64)) (k1 : P.underlying f1.type = some (.int .i64))
    (hv : Value.okWide P W r b0 t v) (h : DataW.Trod enc P W 0 (fun _ => true) held t v d p) :
    ∃ (A : Option Addr) (n cap : Nat) (L : List (Int × Int)), v = .slice A n cap ∧ L.length = n ∧ (n : Int) ≤ 9223372036854775807 ∧ RowK W W.heap.size A L := by
  obtain ⟨a0, len0, cap0, rfl⟩ := okWide_slice ht hv
  obtain ⟨fuel, hf⟩ := h
  have hf' : DataW.trod enc P W 0 (fun _ => true) held fuel t [.slice a0 len0 cap0] = some (d, p) := by simpa [Value.cells] using hf
  rcases open_slice ht hf' with ⟨hcs, _⟩ | ⟨a, len, cap, m, n, D, Pl, hcs, _, hl, hm, hmm, _, hx⟩
  · simp only [List.cons.injEq, and_true, Value.slice.injEq] at hcs
    obtain ⟨rfl, rfl, rfl⟩ := hcs
    exact ⟨none, 0, 0, [], rfl, rfl, by omega, ⟨0, 0, fun h => by simp at h, fun j u hu => by simp at hu⟩⟩
  · simp only [List.cons.injEq, and_true, Value.slice.injEq] at hcs
    obtain ⟨rfl, rfl, rfl⟩ := hcs
    simp only [if_true] at hmm
    subst hmm
    have each : ∀ i, i < len0 → ∃ q : Int × Int, W.cell? (a.add (i * 2)) = some (.int .i64 q.1) ∧ W.cell? (a.add (i * 2 + 1)) = some (.int .i64 q.2) := by
      intro i hi
      obtain ⟨cs', h1, h2⟩ := hx i (by omega)
      rw [hc] at h1
      obtain ⟨_, hlen, hcell⟩ := World.cells?_some h1
      obtain ⟨y0, y1, n', _, _, g0, g1⟩ := trod_struct2 he h2
      obtain ⟨o0, s0⟩ := hone_of hone 0 f0 rfl
      obtain ⟨o1, s1⟩ := hone_of hone 1 f1 rfl
      match cs', hlen with
      | [c0, c1], _ =>
        rw [o0, s0] at g0
        rw [o1, s1] at g1
        obtain ⟨q0, e0, _, w0⟩ := DataW.trod_int k0 (by simpa using g0)
        obtain ⟨q1, e1, _, w1⟩ := DataW.trod_int k1 (by simpa using g1)
        simp only [List.cons.injEq, and_true] at e0 e1
        subst e0 e1
        have a0 := hcell 0 (by omega)
        have a1 := hcell 1 (by omega)
        rw [add_add] at a0 a1
        exact ⟨(q0, q1), a0, a1⟩
    obtain ⟨V, hV⟩ := choose_lt (α := Int × Int) each
    refine ⟨some a, len0, _, (List.range len0).map V, rfl, by simp, by unfold maxLen at hm; omega, ?_⟩
    by_cases h00 : len0 = 0
    · subst h00
      exact ⟨0, 0, fun h => by simp at h, fun j u hu => by simp at hu⟩
    · obtain ⟨b, off, spot⟩ := a
      have hc0 := (hV 0 (by omega)).1
      have hsp : spot = none := by
        have h1 := World.cell?_spot hc0
        simpa [Addr.add] using h1
      subst hsp
      refine ⟨b, off, fun _ => ⟨rfl, ?_⟩, fun j d hd => ?_⟩
      · rw [add_plain'] at hc0
        exact World.block_lt_of_cell? W _ hc0
      · have hj : j < len0 := by
          have := (List.getElem?_eq_some_iff.1 hd).1
          simpa using this
        have hd' : V j = d := by simpa [List.getElem?_range hj] using hd
        obtain ⟨c0, c1⟩ := hV j hj
        rw [add_plain'] at c0 c1
        rw [hd'] at c0 c1
        exact ⟨c0, c1⟩
end Go.Proofs.YtgkgdgchkhdgjaaDoor.Def
