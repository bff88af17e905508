/- The cells joined to a cell: of the region's, its neighbors; of the rest, those around it, by corners too. -/
import Derived.Test.YtocjnplbjdpieaaFlM
import Derived.Test.YtocjnplbjdpieaaNbI
import Derived.Test.YtocjnplbjdpieaaRegCl
namespace Go.Proofs.Ytocjnplbjdpieaa.Flo
set_option linter.unusedVariables false
open Go.RowKit Go.Proofs.Ytocjnplbjdpieaa.Base Go.Proofs.Ytocjnplbjdpieaa.Pure Go.Proofs.Ytocjnplbjdpieaa.Euler Go.Proofs.Ytocjnplbjdpieaa.Bal Go.Proofs.Ytocjnplbjdpieaa.Cell Go.Proofs.Ytocjnplbjdpieaa.Reg Go.Proofs.Ytocjnplbjdpieaa.Cels Go.Joins

theorem join_table : ∀ i, i < 64 → Nb.nbTo (plC (io i)).1 (plC (io i)).2 64 = (joinF true (io i)).map plC := by decide +kernel
theorem join_true {v : Nat} (hv : v < 100) (hr : ring v = false) : Nb.nbTo (plC v).1 (plC v).2 64 = (joinF true v).map plC := by
  have := join_table (oi v) (oi_lt hv hr)
  rwa [io_oi hr] at this
theorem implNb' (W : World) {v : Nat} (hv : v < 100) (hr : ring v = false) {x y : Int} (hx : x = (plC v).1) (hy : y = (plC v).2) : Calls Try.prog 75 #[.agg #[.int .i64 x, .int .i64 y]] W (NbPost ((joinF true v).map plC) W) := by
  subst hx hy
  rw [← join_true hv hr]
  exact Nb.implNb _ _ W
theorem specNb' (W : World) {v : Nat} (hv : v < 100) (hr : ring v = false) {x y : Int} (hx : x = (plC v).1) (hy : y = (plC v).2) : Calls Try.prog 61 #[.agg #[.int .i64 x, .int .i64 y]] W (NbPost ((joinF true v).map plC) W) := by
  subst hx hy
  rw [← join_true hv hr]
  exact Nb.specNb _ _ W
def inRg (x y : Int) : Bool := decide (-1 ≤ x ∧ x ≤ 8 ∧ -1 ≤ y ∧ y ≤ 8)
theorem inRg_iff {x y : Int} : inRg x y = true ↔ -1 ≤ x ∧ x ≤ 8 ∧ -1 ≤ y ∧ y ≤ 8 := by unfold inRg; simp
theorem inRg_to (v : Nat) (d r : Nat) (hr : r < 3) : inRg ((plC v).1 + ((r : Int) - 1)) ((plC v).2 + ((d : Int) - 1)) = inTo v (3 * d + r) := by
  rw [Bool.eq_iff_iff, inRg_iff]
  unfold inTo plC
  simp only [Bool.and_eq_true, decide_eq_true_eq, show (3 * d + r) / 3 = d by omega, show (3 * d + r) % 3 = r by omega]
  omega
theorem toP_cell {v d r : Nat} (hr : r < 3) (h : inTo v (3 * d + r) = true) : plC (toP v (3 * d + r)) = ((plC v).1 + ((r : Int) - 1), (plC v).2 + ((d : Int) - 1)) := by
  unfold inTo at h
  simp only [Bool.and_eq_true, decide_eq_true_eq, show (3 * d + r) / 3 = d by omega, show (3 * d + r) % 3 = r by omega] at h
  unfold plC toP
  simp only [show (3 * d + r) / 3 = d by omega, show (3 * d + r) % 3 = r by omega]
  exact Prod.ext (by simp only; omega) (by simp only; omega)

set_option maxHeartbeats 400000 in
theorem inRing (x y : Int) (w : World) :
    Calls Try.prog 76 #[.agg #[.int .i64 x, .int .i64 y]] w (Bol (inRg x y) w) := by
  have H : ∀ (b : Bool) (W : World), (b = true ↔ -1 ≤ x ∧ x ≤ 8 ∧ -1 ≤ y ∧ y ≤ 8) → Below w.heap.size w W → Bol (inRg x y) w (.returned (.bool b)) W := fun b W h hb => mkBol (by rw [Bool.eq_iff_iff, inRg_iff]; exact h) hb
  have HH := Lib.hid H
  clear H
  go_enter Try.func76, Try.ntmps76
  go_wp2
  all_goals
    go_ret
    refine HH.out _ _ ?_ (below_alloc1 _ _)
    simp
    try omega

/-- a box of two numbers. -/
def Bx (w : World) (x y : Int) (W : World) : Prop := Below w.heap.size w W ∧ w.heap.size + 1 ≤ W.heap.size ∧ W.cell? ⟨w.heap.size, 0, none⟩ = some (.int .i64 x) ∧ W.cell? ⟨w.heap.size, 1, none⟩ = some (.int .i64 y)
theorem bx_start {T : TypeId} (x y : Int) (w : World) : Bx w x y (w.alloc (.cells #[.int .i64 x, .int .i64 y] T)) :=
  ⟨below_alloc1 w _, by simp, (cell_of_row _ _ 0 _ _ _ (heap_alloc_new w _)).trans rfl, (cell_of_row _ _ 1 _ _ _ (heap_alloc_new w _)).trans rfl⟩
theorem Bx.on {w W W' : World} {x y : Int} (h : Bx w x y W) (hb : Below W.heap.size W W') : Bx w x y W' := by
  obtain ⟨h0, h1, h2, h3⟩ := h
  have hz := hb.size
  exact ⟨h0.trans (hb.mono h0.size), by omega, (hb.cell (by show w.heap.size < _; omega)).trans h2, (hb.cell (by show w.heap.size < _; omega)).trans h3⟩
theorem Bx.grown {w W W' : World} {x y : Int} {B : Nat} (h : Bx w x y W) (hb : Below B W W') (hB : w.heap.size + 1 ≤ B) : Bx w x y W' := by
  obtain ⟨h0, h1, h2, h3⟩ := h
  have hz := hb.size
  exact ⟨h0.trans (hb.mono (by omega)), by omega, (hb.cell (by show w.heap.size < _; omega)).trans h2, (hb.cell (by show w.heap.size < _; omega)).trans h3⟩

set_option maxRecDepth 100000 in
set_option maxHeartbeats 2000000 in
theorem joined (g : Bool) (v : Nat) (hv : v < 100) (hg : g = true → ring v = false) (x y : Int) (hx : x = (plC v).1) (hy : y = (plC v).2) (w : World) :
    Calls Try.prog 72 #[.agg #[.int .i64 x, .int .i64 y], .bool g] w (NbPost ((joinF g v).map plC) w) := by
  obtain ⟨i0, hi, hz0, hz1, hz2⟩ := info_parts cellInfo
  have T0 := Lib.hid (fun T => bx_start (T := T) x y w)
  cases g with
  | true =>
    have HN := Lib.hid (fun W => implNb' W hv (hg rfl) hx hy)
    clear hx hy hg
    generalize (joinF true v).map plC = L at HN ⊢
    go_enter Try.func72, Try.ntmps72
    go_wp2_with fail
    refine (HN.out _).mono ?_
    rintro e w1 ⟨A, cap, rfl, hown, hb1⟩
    have T1 := (T0.out 34).on hb1
    have HO := Lib.hid (own_base (B' := w.heap.size) hown (by simp))
    have hb := T1.1
    clear hown T1 hb1
    go_wp2
    go_ret
    exact ⟨A, cap, rfl, HO.out, hb⟩
  | false =>
    have hL : ∀ k, (ringTo v k).length ≤ k := ringTo_length v
    have HL := Lib.hid hL
    have HIn := Lib.hid (fun d r hr => inRg_to v d r hr)
    have HTo := Lib.hid (fun d r hr h => toP_cell (v := v) (d := d) (r := r) hr h)
    rw [← hx, ← hy] at HIn HTo
    have HX := Lib.hid (show -1 ≤ x ∧ x ≤ 8 ∧ -1 ≤ y ∧ y ≤ 8 by rw [hx, hy]; unfold plC; simp only; omega)
    have HE := Lib.hid (show (joinF false v).map plC = (ringTo v 9).map plC from rfl)
    clear hx hy hg hL
    go_enter Try.func72, Try.ntmps72
    go_wp2_with (first
      | (at_make; refine wpList_make_own _ rfl _ _ 31 rfl (w.heap.size + 1) 34 i0 (.agg #[.int .i64 0, .int .i64 0]) 2 Try.underlying31 hi hz0 hz1 .i64 .i64 9 9 rfl rfl (by omega) (by rw [hz2]; omega) (by unfold maxLen; omega) (by simp) ?_; intro w3 hown3 hg3))
    have T3 := (T0.out 34).on ((Below.refl _ _).grown hg3 (by omega) (by simp))
    have HO := Lib.hid hown3
    clear hown3 hg3 T0
    go_loopw [5, 6] (fun s i wr => ∃ d : Nat, d ≤ 3 ∧ i = .int .i64 ((d : Int) - 1) ∧ wr.ownsRow (w.heap.size + 1) 34 2 s (ringTo v (3 * d)).length (rowC ((ringTo v (3 * d)).map plC)) ∧ Bx w x y wr) (fun _ i _ => 3 - ((intOf i) + 1).toNat)
    case atStart => exact ⟨0, Nat.zero_le _, rfl, (by have q := HO.out; simp at q; simpa [ringTo, rowC] using q), T3⟩
    case round =>
      clear HO T3
      obtain ⟨d, hd, rfl, hown, T⟩ := hrel
      by_cases hlt : d < 3
      · have HO := Lib.hid hown
        clear hown
        go_wp2_with fail
        have hdd : decide ((d : Int) - 1 ≤ 1) = true := decide_eq_true (by omega)
        go_loopw [5, 7] (fun s i wr => ∃ r : Nat, r ≤ 3 ∧ i = .int .i64 ((r : Int) - 1) ∧ wr.ownsRow (w.heap.size + 1) 34 2 s (ringTo v (3 * d + r)).length (rowC ((ringTo v (3 * d + r)).map plC)) ∧ Bx w x y wr) (fun _ i _ => 3 - ((intOf i) + 1).toNat)
        case atStart => exact ⟨0, Nat.zero_le _, rfl, HO.out, T⟩
        case round =>
          clear HO T
          obtain ⟨r, hr, rfl, hown, T⟩ := hrel
          by_cases hlr : r < 3
          · have HO := Lib.hid hown
            have hI := HIn.out d r hlr
            clear hown
            obtain ⟨hb, hsz, c0, c1⟩ := id T
            go_wp2_with fail
            refine (moved x y _ _ _).mono ?_
            rintro e w1 ⟨rfl, hb1⟩
            have T1 := T.on hb1
            have hw1 : wrap64 (x + ((r : Int) - 1)) = x + ((r : Int) - 1) := by have := HX.out; unfold wrap64; omega
            have hw2 : wrap64 (y + ((d : Int) - 1)) = y + ((d : Int) - 1) := by have := HX.out; unfold wrap64; omega
            rw [hw1, hw2]
            clear hw1 hw2
            have hT := HTo.out d r hlr
            have hN : inTo v (3 * d + r) = true ∧ Hid (∃ p, ringTo v (3 * d + (r + 1)) = ringTo v (3 * d + r) ++ [p] ∧ plC p = (x + ((r : Int) - 1), y + ((d : Int) - 1))) ∨ inTo v (3 * d + r) = false ∧ Hid (ringTo v (3 * d + (r + 1)) = ringTo v (3 * d + r)) := by
              cases q : inTo v (3 * d + r) with
              | true => exact .inl ⟨rfl, Lib.hid ⟨_, ringTo_yes q, hT q⟩⟩
              | false => exact .inr ⟨rfl, Lib.hid (ringTo_no q)⟩
            generalize inTo v (3 * d + r) = bb at hI hN
            generalize x + ((r : Int) - 1) = u at hI hN ⊢
            generalize y + ((d : Int) - 1) = t at hI hN ⊢
            have hw1 := hb1.size
            have HI := Lib.hid hI
            clear hT hI
            go_wp2_with fail
            refine (inRing u t _).mono ?_
            rintro e w2 ⟨rfl, hb2⟩
            have hbl := heap_alloc_new w1 (.cells #[.int .i64 u, .int .i64 t] 34)
            have hc2 : w2.cell? ⟨w1.heap.size, 0, none⟩ = some (.int .i64 u) := (hb2.cell (by simp)).trans ((cell_of_row _ _ 0 _ _ _ hbl).trans rfl)
            have hc3 : w2.cell? ⟨w1.heap.size, 1, none⟩ = some (.int .i64 t) := (hb2.cell (by simp)).trans ((cell_of_row _ _ 1 _ _ _ hbl).trans rfl)
            have hE : Below w1.heap.size w1 w2 := (below_alloc1 w1 _).trans (hb2.mono (by simp))
            have T2 := T1.on hE
            have HO2 := Lib.hid (own_below HO.out (hb1.trans (hE.mono hw1)) (Nat.le_refl _))
            have hw2 := hE.size
            have hz : w1.heap.size < w2.heap.size := by have := hb2.size; simp at this; omega
            rw [HI.out]
            clear hbl hb2 hE T1 hb1 c0 c1 hb
            rcases hN with ⟨rfl, HN⟩ | ⟨rfl, HN⟩
            · have HLk := Lib.hid (HL.out (3 * d + r))
              go_wp2_with (first
                | (at_builtin; refine wpList_append_own _ rfl _ _ 31 rfl (w.heap.size + 1) 34 i0 (.agg #[.int .i64 0, .int .i64 0]) 2 16 Try.underlying31 hi hz0 hz1 hz2 rfl (by decide) _ (ringTo v (3 * d + r)).length (rowC ((ringTo v (3 * d + r)).map plC)) rfl (HO2.out.alloc _) ⟨w2.heap.size, 0, none⟩ 1 1 [.int .i64 u, .int .i64 t] rfl rfl (World.news_of_block (cs := #[.int .i64 u, .int .i64 t]) (t := 34) (fr := (0, 0)) (heap_alloc_new w2 _)) (by simp [Value.oneCell']) (by have := HLk.out; unfold maxLen; omega) (by have := HLk.out; omega) (by simp; omega) ?_; intro v2 w3 hown3 hgrow _))
              have T3 := T2.grown (((Below.refl (w.heap.size + 1) w2).alloc (by omega) _).grown hgrow (by simp; omega) (fun g hg => (HO2.out.lt g hg).1)) (Nat.le_refl _)
              have R := Lib.hid (show w3.ownsRow (w.heap.size + 1) 34 2 v2 (ringTo v (3 * d + (r + 1))).length (rowC ((ringTo v (3 * d + (r + 1))).map plC)) by
                obtain ⟨p, hp, hq⟩ := HN.out
                rw [hp, List.map_append, List.map_singleton, rowC_snoc, List.length_append, hq]; exact hown3)
              clear hown3 hgrow T2
              go_wp2
              go_roundw
              case rel =>
                iterate 17 apply Exists.intro
                refine ⟨⟨r + 1, by omega, ?_, R.out, T3⟩, ?_⟩
                rotate_left
                · rw [hdd]
                · go_num
              case measure => (simp [intOf] <;> omega)
            · have R := Lib.hid (show w2.ownsRow (w.heap.size + 1) 34 2 _ (ringTo v (3 * d + (r + 1))).length (rowC ((ringTo v (3 * d + (r + 1))).map plC)) by rw [HN.out]; exact HO2.out)
              go_wp2
              go_roundw
              case rel =>
                iterate 17 apply Exists.intro
                refine ⟨⟨r + 1, by omega, ?_, R.out, T2⟩, ?_⟩
                rotate_left
                · rw [hdd]
                · go_num
              case measure => (simp [intOf] <;> omega)
          · obtain rfl : r = 3 := by omega
            have R := Lib.hid (show wr.ownsRow (w.heap.size + 1) 34 2 _ (ringTo v (3 * (d + 1))).length (rowC ((ringTo v (3 * (d + 1))).map plC)) by rw [show 3 * (d + 1) = 3 * d + 3 by omega]; exact hown)
            clear hown
            go_wp2
            go_roundw
            case rel => exact ⟨d + 1, by omega, by go_num, R.out, T⟩
            case measure => (simp [intOf] <;> omega)
      · obtain rfl : d = 3 := by omega
        obtain ⟨A', cap', rfl⟩ := own_shape hown
        have HO := Lib.hid hown
        have hb := T.1
        clear hown T
        go_wp2
        go_ret
        rw [HE.out]
        have e : (ringTo v (3 * 3)).length = ((ringTo v 9).map plC).length := by rw [List.length_map]
        exact ⟨A', cap', by rw [← e]; rfl, by rw [← e]; exact own_base HO.out (by omega), hb⟩
end Go.Proofs.Ytocjnplbjdpieaa.Flo
