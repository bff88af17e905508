/- The law FnCounts returns true for every code: each cell is covered by exactly one domino of each tiling. -/
import Derived.Test.YtcncikgcieigaaaDrT
import Derived.Test.YtcncikgcieigaaaDrawA
import Derived.Test.YtcncikgcieigaaaCtW
namespace Go.Proofs.Ytcncikgcieigaaa.Counts
set_option linter.unusedVariables false
set_option linter.unusedSimpArgs false
open Go.RowKit Go.Proofs.Ytcncikgcieigaaa.Base Go.Proofs.Ytcncikgcieigaaa.Pure Go.Proofs.Ytcncikgcieigaaa.Cell Go.Proofs.Ytcncikgcieigaaa.Cels Go.Proofs.Ytcncikgcieigaaa.Reg Go.Proofs.Ytcncikgcieigaaa.Draw Go.Proofs.Ytcncikgcieigaaa.Dom Go.Proofs.Ytcncikgcieigaaa.Tile Go.Joins
open Go.Proofs.Ytcncikgcieigaaa.Cnt hiding own_cell
open Go.Proofs.Ytcncikgcieigaaa.Prof hiding below_of_apart

theorem own_cap2 {W : World} {base e n c : Nat} {A : Option Addr} {ys : List Value} (h : W.ownsRow base e 1 (.slice A n c) n ys) : A = none → n = 0 ∧ c = 0 := by
  intro ha
  subst ha
  rcases h.2 with ⟨h', h0⟩ | ⟨g', cap', cur, h', _⟩
  · injection h' with _ _ hc
    exact ⟨h0, hc⟩
  · simp at h'
theorem wrap_isP (x : Int) : IntKind.i64.wrap x = wrap64 x := by rw [IntKind.wrap_i64]; unfold wrap64; first | rfl | omega
theorem has_gR {xs : List Int} (ho : okR xs) {x y : Nat} (hx : x < 8) (hy : y < 8) : hasB xs (x : Int) (y : Int) = gR xs (y * 8 + x) := by
  rw [has_at ho hx hy, gR_in (by omega), show (y * 8 + x) / 8 = y by omega, show (y * 8 + x) % 8 = x by omega]
theorem with_pair {xs : List Int} (ho : okR xs) {x y u v : Nat} {b : Bool} (hx : x < 8) (hy : y < 8) (hu : u < 8) (hv : v < 8) (e1 : sx (x : Int) b = (u : Int)) (e2 : sy (y : Int) b = (v : Int)) :
    withT xs (x : Int) (y : Int) b = if gR xs (y * 8 + x) = true ∧ gR xs (v * 8 + u) = true then wrap64 (tiles (rem (gR xs) (y * 8 + x) (v * 8 + u)) : Nat) else 0 := by
  unfold withT
  rw [e1, e2, has_gR ho hx hy, has_gR ho hu hv]
  by_cases h : gR xs (y * 8 + x) = true ∧ gR xs (v * 8 + u) = true
  · rw [if_pos h, if_pos h, (withX_in ho hx hy false).1, (withX_in (okR_with ho hx hy) hu hv false).1, tilesR_ok (okR_with (okR_with ho hx hy) hu hv), gR_two ho hx hy hu hv]
  · rw [if_neg h, if_neg h]
theorem with_bad {xs : List Int} {x y : Int} {b : Bool} (h : ¬ (Ok x y ∧ Ok (sx x b) (sy y b))) : withT xs x y b = 0 := by
  unfold withT
  rw [if_neg]
  rintro ⟨h1, h2⟩
  obtain ⟨_, a0, a1, a2, a3, _⟩ := hasB_iff.1 h1
  obtain ⟨_, b0, b1, b2, b3, _⟩ := hasB_iff.1 h2
  exact h ⟨by unfold Ok; omega, by unfold Ok; omega⟩
/-- each cell is covered by exactly one domino of each tiling. -/
theorem sum_cell {xs : List Int} (ho : okR xs) {x y k : Nat} (hk : k < 64) (hx : x = k % 8) (hy : y = k / 8) (hg : gR xs k = true) {x1 y1 : Int} (hx1 : x1 = (x : Int) - 1) (hy1 : y1 = (y : Int) - 1) :
    wrap64 (wrap64 (wrap64 (withT xs (x : Int) (y : Int) false + withT xs (x : Int) (y : Int) true) + withT xs x1 (y : Int) false) + withT xs (x : Int) y1 true) = tilesR xs := by
  have hx8 : x < 8 := by omega
  have hy8 : y < 8 := by omega
  have ek : y * 8 + x = k := by omega
  have h4 := tiles_cell hk hg
  have a1 : D (withT xs (x : Int) (y : Int) false) ((if k % 8 ≠ 7 then (if gR xs (k + 1) = true then tiles (rem (gR xs) k (k + 1)) else 0) else 0 : Nat) : Int) := by
    by_cases h7 : k % 8 ≠ 7
    · rw [if_pos h7, with_pair ho (u := x + 1) (v := y) hx8 hy8 (by omega) hy8 (by unfold sx; simp; unfold wrap64; omega) (by unfold sy; simp), ek, show y * 8 + (x + 1) = k + 1 by omega]
      by_cases q : gR xs (k + 1) = true
      · rw [if_pos ⟨hg, q⟩, if_pos q]; exact D_wrap _
      · rw [if_neg (fun r => q r.2), if_neg q]; exact D.refl _
    · rw [if_neg h7, with_bad]
      · exact D.refl _
      · rintro ⟨_, h⟩
        unfold Ok sx sy at h
        simp only [Bool.false_eq_true, if_false] at h
        unfold wrap64 at h
        omega
  have a2 : D (withT xs (x : Int) (y : Int) true) ((if k + 8 < 64 then (if gR xs (k + 8) = true then tiles (rem (gR xs) k (k + 8)) else 0) else 0 : Nat) : Int) := by
    by_cases h8 : k + 8 < 64
    · rw [if_pos h8, with_pair ho (u := x) (v := y + 1) hx8 hy8 hx8 (by omega) (by unfold sx; simp) (by unfold sy; simp; unfold wrap64; omega), ek, show (y + 1) * 8 + x = k + 8 by omega]
      by_cases q : gR xs (k + 8) = true
      · rw [if_pos ⟨hg, q⟩, if_pos q]; exact D_wrap _
      · rw [if_neg (fun r => q r.2), if_neg q]; exact D.refl _
    · rw [if_neg h8, with_bad]
      · exact D.refl _
      · rintro ⟨_, h⟩
        unfold Ok sx sy at h
        simp only [if_true] at h
        unfold wrap64 at h
        omega
  have a3 : D (withT xs x1 (y : Int) false) ((if k % 8 ≠ 0 then (if gR xs (k - 1) = true then tiles (rem (gR xs) k (k - 1)) else 0) else 0 : Nat) : Int) := by
    by_cases h0 : k % 8 ≠ 0
    · have e : x1 = ((x - 1 : Nat) : Int) := by omega
      rw [if_pos h0, e, with_pair ho (x := x - 1) (u := x) (v := y) (by omega) hy8 hx8 hy8 (by unfold sx; simp; unfold wrap64; omega) (by unfold sy; simp), ek, show y * 8 + (x - 1) = k - 1 by omega, rem_comm]
      by_cases q : gR xs (k - 1) = true
      · rw [if_pos ⟨q, hg⟩, if_pos q]; exact D_wrap _
      · rw [if_neg (fun r => q r.1), if_neg q]; exact D.refl _
    · rw [if_neg h0, with_bad]
      · exact D.refl _
      · rintro ⟨h, _⟩
        unfold Ok at h
        omega
  have a4 : D (withT xs (x : Int) y1 true) ((if 8 ≤ k then (if gR xs (k - 8) = true then tiles (rem (gR xs) k (k - 8)) else 0) else 0 : Nat) : Int) := by
    by_cases h0 : 8 ≤ k
    · have e : y1 = ((y - 1 : Nat) : Int) := by omega
      rw [if_pos h0, e, with_pair ho (y := y - 1) (u := x) (v := y) hx8 (by omega) hx8 hy8 (by unfold sx; simp) (by unfold sy; simp; unfold wrap64; omega), ek, show (y - 1) * 8 + x = k - 8 by omega, rem_comm]
      by_cases q : gR xs (k - 8) = true
      · rw [if_pos ⟨q, hg⟩, if_pos q]; exact D_wrap _
      · rw [if_neg (fun r => q r.1), if_neg q]; exact D.refl _
    · rw [if_neg h0, with_bad]
      · exact D.refl _
      · rintro ⟨h, _⟩
        unfold Ok at h
        omega
  rw [tilesR_ok ho, h4, Int.natCast_add, Int.natCast_add, Int.natCast_add]
  refine D.wrap ?_
  exact (((D_wrap _).trans (((D_wrap _).trans (a1.add a2)).add a3))).add a4
theorem rect_sym' {a b : Int} (ha : 1 ≤ a ∧ a ≤ 5) (hb : 1 ≤ b ∧ b ≤ 5) : rectT a b = rectT b a := by
  rw [rectT_in (by omega), rectT_in (by omega)]
  have := rect_sym (a := a.toNat) (b := b.toNat) (by omega) (by omega)
  rwa [Int.toNat_of_nonneg (by omega), Int.toNat_of_nonneg (by omega)] at this
theorem rect_25' : rectT 2 5 = 8 := by rw [rectT_in (by omega)]; exact rect_25
/-- a region without cells has one tiling. -/
theorem tiles_none {xs : List Int} (ho : okR xs) (h : (idxs xs).length = 0) : tilesR xs = 1 := by
  rw [tilesR_ok ho]
  unfold tiles
  rw [T_none (by rw [idxs_cnt]; exact h)]
  unfold wrap64; omega
theorem half_parts {xs : List Int} {e : Nat} (ho : okR xs) (hl : (idxs xs).length ≤ 16) (ht : 1 ≤ tilesR xs) (he : e = (idxs xs).length / 2) : partT xs (e : Int) = tilesR xs := by
  have h2 := tiles_even (xs := xs) (fun h => by rw [tilesR_ok ho, h] at ht; unfold wrap64 at ht; omega)
  rw [partT_in ho hl, parts_half (by omega), tilesR_ok ho]
theorem none_parts {xs : List Int} (ho : okR xs) (hl : (idxs xs).length ≤ 16) : partT xs 0 = 1 := by
  have := partT_in (n := 0) ho hl
  rw [parts_none] at this
  rw [show (0 : Int) = ((0 : Nat) : Int) from rfl, this]; unfold wrap64; omega
/-- what the law holds: the region in a box. -/
def CF (w : World) (pr : Nat) (Ar : Option Addr) (n cr : Nat) (xs : List Int) (W : World) : Prop :=
  Below w.heap.size w W ∧ W.heap[pr]? = some (.cells #[.slice Ar n cr] 26) ∧ W.ownsRow w.heap.size 3 1 (.slice Ar n cr) n (ints xs)
section
variable {w W W' : World} {pr : Nat} {Ar : Option Addr} {n cr : Nat} {xs : List Int}
theorem CF.on (h : CF w pr Ar n cr xs W) (hb : Below W.heap.size W W') : CF w pr Ar n cr xs W' :=
  ⟨h.1.trans (hb.mono h.1.size), (hb.block pr (Array.getElem?_eq_some_iff.1 h.2.1).1).trans h.2.1, own_below h.2.2 hb (Nat.le_refl _)⟩
theorem CF.cell (h : CF w pr Ar n cr xs W) : W.cell? ⟨pr, 0, none⟩ = some (.slice Ar n cr) := (cellAt h.2.1 0).1.trans rfl
theorem cf_start (hb : Below w.heap.size w W) (h : W.ownsRow w.heap.size 3 1 (.slice Ar n cr) n (ints xs)) : CF w W.heap.size Ar n cr xs (W.alloc (.cells #[.slice Ar n cr] 26)) :=
  ⟨hb.trans ((below_alloc1 W _).mono hb.size), heap_alloc_new W _, own_below h (below_alloc1 W _) (Nat.le_refl _)⟩
/-- .. and a cell in a box. -/
def CG (w : World) (pr : Nat) (Ar : Option Addr) (n cr : Nat) (xs : List Int) (p : Nat) (x y : Nat) (W : World) : Prop :=
  CF w pr Ar n cr xs W ∧ W.heap[p]? = some (.cells #[.int .i64 (x : Int), .int .i64 (y : Int)] 35)
variable {p x y : Nat}
theorem CG.on (h : CG w pr Ar n cr xs p x y W) (hb : Below W.heap.size W W') : CG w pr Ar n cr xs p x y W' := ⟨h.1.on hb, (hb.block p (Array.getElem?_eq_some_iff.1 h.2).1).trans h.2⟩
theorem CG.reads (h : CG w pr Ar n cr xs p x y W) : W.cell? ⟨pr, 0, none⟩ = some (.slice Ar n cr) ∧ W.cell? ⟨p, 0, none⟩ = some (.int .i64 (x : Int)) ∧ W.cell? ⟨p, 1, none⟩ = some (.int .i64 (y : Int)) :=
  ⟨h.1.cell, (cellAt h.2 0).1.trans rfl, (cellAt h.2 1).1.trans rfl⟩
end

set_option maxRecDepth 100000 in
set_option maxHeartbeats 4000000 in
theorem counts_law (A : Option Addr) (len cap : Nat) (zs : List Int) (w : World) (h0 : IsRow .u8 w A len cap zs) :
    Calls Try.prog 3 #[.slice A len cap] w fun e w' => e = .returned (.bool true) ∧ Below w.heap.size w w' := by
  have hlen := row_len h0
  by_cases hbig : (1048576 : Int) < (len : Int)
  · go_enter Try.func3, Try.ntmps3
    go_wp2_with fail
    refine (big w A len cap hlen).mono ?_
    rintro e w' ⟨rfl, rfl⟩
    go_wp2
    go_ret
    exact ⟨rfl, Below.refl _ _⟩
  · have HC := Lib.hid (coded_of_row h0 (by omega))
    have HA0 := Lib.hid (fun W (hb : Below w.heap.size w W) => at0 W A len cap w.heap.size HC.out.1 (HC.out.2.below hb))
    have HA1 := Lib.hid (fun W (hb : Below w.heap.size w W) => at1 W A len cap w.heap.size HC.out.1 (HC.out.2.below hb))
    have HA2 := Lib.hid (fun W (hb : Below w.heap.size w W) => at2 W A len cap w.heap.size HC.out.1 (HC.out.2.below hb))
    clear h0
    go_enter Try.func3, Try.ntmps3
    go_wp2_with fail
    refine (big w A len cap hlen).mono ?_
    rintro e w' ⟨rfl, rfl⟩
    go_wp2_with fail
    refine (drawTileable w A len cap HC.out).mono ?_
    rintro e w1 ⟨xs, Ar, n, cr, HO, HX, rfl, hown, hb1⟩
    have F0 := Lib.hid (cf_start hb1 hown)
    clear hown hb1 HC
    go_upto_region 4 with fail
    have F1 := F0.out
    generalize w1.alloc (.cells #[.slice Ar n cr] 26) = W1 at F1 ⊢
    generalize w1.heap.size = pr at F1 ⊢
    clear F0
    have hn8 : n ≤ 8 := by have := HO.out.1.1; have := HX.out; omega
    have hnI : (n : Int) ≤ 9223372036854775807 := by omega
    have HTl := Lib.hid (fun W (h : CF w pr Ar n cr xs W) => iCountTilings W Ar n cr W.heap.size xs HX.out hnI (rowB_own h.2.2) (Nat.le_refl _))
    have HCe := Lib.hid (fun W (h : CF w pr Ar n cr xs W) => sCellsOf W Ar n cr W.heap.size xs HX.out hnI (rowB_own h.2.2) (Nat.le_refl _))
    have HIs := Lib.hid (fun W (h : CF w pr Ar n cr xs W) => iIsTileable W Ar n cr W.heap.size xs HX.out hnI (rowB_own h.2.2) (Nat.le_refl _))
    have HPa := Lib.hid (fun W (h : CF w pr Ar n cr xs W) m hm => iCountPartials W Ar n cr W.heap.size xs HX.out hnI (rowB_own h.2.2) (Nat.le_refl _) m hm)
    have HWi := Lib.hid (fun W (h : CF w pr Ar n cr xs W) x y b (hx : Sm x) (hy : Sm y) => iCountWith W Ar n cr W.heap.size xs HX.out (by omega) (rowB_own h.2.2) (Nat.le_refl _) (own_cap2 h.2.2) x y b hx hy)
    clear hnI hn8
    have c0 := F1.cell
    go_wp2_with fail
    refine (HTl.out _ F1).mono ?_
    rintro e w2 ⟨rfl, hb2⟩
    have F2 := F1.on hb2
    have c0 := F2.cell
    clear F1 hb2 HTl
    go_wp2_with fail
    refine (HCe.out _ F2).mono ?_
    rintro e w3 ⟨A1, c1, rfl, hown3, hb3⟩
    obtain ⟨M, hM⟩ : ∃ M, M = (idxs xs).length := ⟨_, rfl⟩
    have hlc : (cellsR xs).length = M := by rw [(cells_idx HO.out.1).1, hM]
    rw [hlc] at hown3 ⊢
    have F3 := F2.on hb3
    have hM64 : M ≤ 64 := by rw [hM]; exact idxs_len xs
    obtain ⟨cb, hA1, hcb, hcl⟩ := cls_of (W := w3) HO.out.1 hM hown3 (by have := F3.1.size; have := (Array.getElem?_eq_some_iff.1 F3.2.1).1; omega)
    have HA1' := Lib.hid hA1
    have HCs := Lib.hid hcl
    have HNone := Lib.hid (fun (h : M = 0) => tiles_none HO.out.1 (by omega))
    have HHalf := Lib.hid (fun e (he : e = M / 2) (hl : M ≤ 16) => half_parts (e := e) HO.out.1 (by omega) HO.out.2 (by omega))
    have HZero := Lib.hid (fun (hl : M ≤ 16) => none_parts (xs := xs) HO.out.1 (by omega))
    have HCell := Lib.hid (fun i (hi : i < M) => show plcN xs i < 64 ∧ gR xs (plcN xs i) = true from (idxs_lists xs).mem i (by omega))
    have HSum := Lib.hid (fun (k x y : Nat) (x1 y1 : Int) (hk : k < 64) (hx : x = k % 8) (hy : y = k / 8) (hg : gR xs k = true) (hx1 : x1 = (x : Int) - 1) (hy1 : y1 = (y : Int) - 1) => sum_cell (x1 := x1) (y1 := y1) HO.out.1 hk hx hy hg hx1 hy1)
    have ht1 := HO.out.2
    generalize tilesR xs = t at ht1 HIs HNone HHalf HSum ⊢
    clear F2 c0 hb3 hown3 hlc hM HCe hA1 hcl HO
    go_wp2_with fail
    refine (HA0.out _ F3.1).mono ?_
    rintro e w4 ⟨a0, ⟨a00, a01⟩, rfl, rfl⟩
    go_wp2_with fail
    refine (HA1.out _ F3.1).mono ?_
    rintro e w5 ⟨a1, ⟨a10, a11⟩, rfl, rfl⟩
    have c0 := F3.cell
    go_wp2_with fail
    refine (HIs.out _ F3).mono ?_
    rintro e w6 ⟨rfl, hb6⟩
    have F4 := F3.on hb6
    have HB6 := Lib.hid hb6
    rw [decide_eq_true (show 0 < t by omega)]
    have hp : 1 ≤ 1 + a0 % 5 ∧ 1 + a0 % 5 ≤ 5 := by omega
    have hq : 1 ≤ 1 + a1 % 5 ∧ 1 + a1 % 5 ≤ 5 := by omega
    generalize 1 + a0 % 5 = p at hp ⊢
    generalize 1 + a1 % 5 = q at hq ⊢
    have HSy := Lib.hid (rect_sym' hq hp)
    have htn : ¬ t < 1 := by omega
    clear F3 hb6 c0 HIs hp hq HA0 HA1 a00 a01 a10 a11
    go_wp2_with fail
    refine (iRectangleCount _ p q).mono ?_
    rintro e w7 ⟨rfl, hb7⟩
    have F5 := F4.on hb7
    have HB7 := Lib.hid (HB6.out.trans (hb7.mono HB6.out.size))
    clear F4 hb7 HB6
    generalize rectT p q = rr at HSy ⊢
    have hrr : (rr != rr) = false := by simp
    go_wp2_with fail
    refine (iRectangleCount _ q p).mono ?_
    rintro e w8 ⟨rfl, hb8⟩
    have F6 := F5.on hb8
    have HB8 := Lib.hid (HB7.out.trans (hb8.mono HB7.out.size))
    clear F5 hb8 HB7
    rw [HSy.out]
    clear HSy
    go_wp2_with fail
    refine (iRectangleCount _ 2 5).mono ?_
    rintro e w9 ⟨rfl, hb9⟩
    have F7 := F6.on hb9
    have HB9 := Lib.hid (HB8.out.trans (hb9.mono HB8.out.size))
    clear F6 hb9 HB8
    rw [rect_25']
    by_cases hM0 : M = 0
    · have HT := Lib.hid (HNone.out hM0)
      subst hM0
      clear HHalf HZero HSum HCell HCs HA1' HNone ht1
      have hb := F7.1
      clear F7
      go_wp2
      go_ret
      exact ⟨by rw [HT.out]; rfl, hb⟩
    · go_wp2_with fail
      refine (HA2.out _ F7.1).mono ?_
      rintro e w10 ⟨a2, ⟨a20, a21⟩, rfl, rfl⟩
      obtain ⟨i, hi⟩ : ∃ i : Nat, a2 % (M : Int) = (i : Int) := ⟨(a2 % (M : Int)).toNat, by have := Int.emod_nonneg a2 (show (M : Int) ≠ 0 by omega); omega⟩
      have hiM : i < M := by have := Int.emod_lt_of_pos a2 (show (0 : Int) < (M : Int) by omega); omega
      have htm : a2.tmod (M : Int) = (i : Int) := by rw [Int.tmod_eq_emod_of_nonneg a20]; exact hi
      have hiI : (i : Int) < (M : Int) := by omega
      have hMI : (M : Int) ≠ 0 := by omega
      obtain ⟨hk64, hgk⟩ := HCell.out i hiM
      obtain ⟨_, cx, cy⟩ := HCs.out _ HB9.out i hiM
      obtain rfl := HA1'.out (by omega)
      rw [Nat.zero_add] at cx cy
      obtain ⟨k, hk⟩ : ∃ k, k = plcN xs i := ⟨_, rfl⟩
      rw [← hk] at hk64 hgk cx cy
      clear hk
      obtain ⟨x, hx⟩ : ∃ x, x = k % 8 := ⟨_, rfl⟩
      obtain ⟨y, hy⟩ : ∃ y, y = k / 8 := ⟨_, rfl⟩
      obtain ⟨x1, hx1⟩ : ∃ x1, x1 = (x : Int) - 1 := ⟨_, rfl⟩
      obtain ⟨y1, hy1⟩ : ∃ y1, y1 = (y : Int) - 1 := ⟨_, rfl⟩
      rw [← hx] at cx
      rw [← hy] at cy
      have HS := Lib.hid (HSum.out k x y x1 y1 hk64 hx hy hgk hx1 hy1)
      have hxw : IntKind.i64.wrap ((x : Int) - 1) = x1 := by rw [wrap_isP, hx1]; unfold wrap64; omega
      have hyw : IntKind.i64.wrap ((y : Int) - 1) = y1 := by rw [wrap_isP, hy1]; unfold wrap64; omega
      have HW1 := Lib.hid (fun W (h : CF w pr Ar n cr xs W) => HWi.out W h (x : Int) (y : Int) false (by unfold Sm; omega) (by unfold Sm; omega))
      have HW2 := Lib.hid (fun W (h : CF w pr Ar n cr xs W) => HWi.out W h (x : Int) (y : Int) true (by unfold Sm; omega) (by unfold Sm; omega))
      have HW3 := Lib.hid (fun W (h : CF w pr Ar n cr xs W) => HWi.out W h x1 (y : Int) false (by unfold Sm; omega) (by unfold Sm; omega))
      have HW4 := Lib.hid (fun W (h : CF w pr Ar n cr xs W) => HWi.out W h (x : Int) y1 true (by unfold Sm; omega) (by unfold Sm; omega))
      generalize withT xs (x : Int) (y : Int) false = s1 at HW1 HS
      generalize withT xs (x : Int) (y : Int) true = s2 at HW2 HS
      generalize withT xs x1 (y : Int) false = s3 at HW3 HS
      generalize withT xs (x : Int) y1 true = s4 at HW4 HS
      clear HWi HSum HCell HCs HA1' HNone HB9 HA2 hx hy hx1 hy1 hgk hk64 a20 a21
      go_upto_region 13 with fail
      have hba := below_alloc1 w10 (.cells #[.int .i64 (x : Int), .int .i64 (y : Int)] 35)
      have G1 : CG w pr Ar n cr xs w10.heap.size x y (w10.alloc (.cells #[.int .i64 (x : Int), .int .i64 (y : Int)] 35)) := ⟨F7.on hba, heap_alloc_new w10 _⟩
      generalize w10.alloc (.cells #[.int .i64 (x : Int), .int .i64 (y : Int)] 35) = W2 at G1 ⊢
      generalize w10.heap.size = p8 at G1 ⊢
      clear hba F7 cx cy hi hiM htm hiI
      refine wp_region_noPanic ?_
      have G2 := G1.on (drewN_below (Below.refl _ W2) 1)
      refine wp_region_held_drew (S := (fun w' => w'.cell? ⟨pr, 0, none⟩ = some (.slice Ar n cr) ∧ w'.cell? ⟨p8, 0, none⟩ = some (.int .i64 (x : Int)) ∧ w'.cell? ⟨p8, 1, none⟩ = some (.int .i64 (y : Int)))) (by kernel_rfl) (G2.reads) (fun hHeld => ?_)
      change CG w pr Ar n cr xs p8 x y W2.drew at G2
      generalize W2.drew = WR at G2 hHeld ⊢
      clear G1
      refine wpAnyH_take (i := 0) (v := ?_) rfl (by as_aux_lemma => kernel_rfl) (by as_aux_lemma => kernel_rfl) (by as_aux_lemma => kernel_rfl) (fun _ _ _ h => h) (Or.inl ⟨by rfl, ?_⟩) (by assumption) ?_
      rotate_left
      · (intro w' hS; (try dsimp only at hS); go_simp; try with_reducible rfl)
      try simp only [Act.put, List.getElem_toArray, List.getElem_cons_succ, List.getElem_cons_zero, List.setIfInBounds_toArray, List.set_cons_zero, List.set_cons_succ]
      refine wpAnyH_take (i := 1) (v := ?_) rfl (by as_aux_lemma => kernel_rfl) (by as_aux_lemma => kernel_rfl) (by as_aux_lemma => kernel_rfl) (fun _ _ _ h => h) (Or.inl ⟨by rfl, ?_⟩) (by assumption) ?_
      rotate_left
      · (intro w' hS; (try dsimp only at hS); go_simp; try with_reducible rfl)
      try simp only [Act.put, List.getElem_toArray, List.getElem_cons_succ, List.getElem_cons_zero, List.setIfInBounds_toArray, List.set_cons_zero, List.set_cons_succ]
      refine wpAnyH_take (i := 2) (v := ?_) rfl (by as_aux_lemma => kernel_rfl) (by as_aux_lemma => kernel_rfl) (by as_aux_lemma => kernel_rfl) (fun _ _ _ h => h) (Or.inl ⟨by rfl, ?_⟩) (by assumption) ?_
      rotate_left
      · (intro w' hS; (try dsimp only at hS); go_simp; try with_reducible rfl)
      try simp only [Act.put, List.getElem_toArray, List.getElem_cons_succ, List.getElem_cons_zero, List.setIfInBounds_toArray, List.set_cons_zero, List.set_cons_succ]
      refine wpAnyH_take (i := 3) (v := ?_) rfl (by as_aux_lemma => kernel_rfl) (by as_aux_lemma => kernel_rfl) (by as_aux_lemma => kernel_rfl) (fun _ _ _ h => h) (Or.inl ⟨by rfl, ?_⟩) (by assumption) ?_
      rotate_left
      · (intro w' hS; (try dsimp only at hS); go_simp; try with_reducible rfl)
      try simp only [Act.put, List.getElem_toArray, List.getElem_cons_succ, List.getElem_cons_zero, List.setIfInBounds_toArray, List.set_cons_zero, List.set_cons_succ]
      refine wpAnyH_take (i := 4) (v := ?_) rfl (by as_aux_lemma => kernel_rfl) (by as_aux_lemma => kernel_rfl) (by as_aux_lemma => kernel_rfl) (fun _ _ _ h => h) (Or.inl ⟨by rfl, ?_⟩) (by assumption) ?_
      rotate_left
      · (intro w' hS; (try dsimp only at hS); go_simp; try with_reducible rfl)
      try simp only [Act.put, List.getElem_toArray, List.getElem_cons_succ, List.getElem_cons_zero, List.setIfInBounds_toArray, List.set_cons_zero, List.set_cons_succ]
      refine wpAnyH_take (i := 5) (v := ?_) rfl (by as_aux_lemma => kernel_rfl) (by as_aux_lemma => kernel_rfl) (by as_aux_lemma => kernel_rfl) (fun _ _ _ h => h) (Or.inl ⟨by rfl, ?_⟩) (by assumption) ?_
      rotate_left
      · (intro w' hS; (try dsimp only at hS); go_simp; try with_reducible rfl)
      try simp only [Act.put, List.getElem_toArray, List.getElem_cons_succ, List.getElem_cons_zero, List.setIfInBounds_toArray, List.set_cons_zero, List.set_cons_succ]
      refine wpAnyH_take (i := 7) (v := ?_) rfl (by as_aux_lemma => kernel_rfl) (by as_aux_lemma => kernel_rfl) (by as_aux_lemma => kernel_rfl) (fun _ _ _ h => h) (Or.inl ⟨by rfl, ?_⟩) (by assumption) ?_
      rotate_left
      · (intro w' hS; (try dsimp only at hS); go_simp; try with_reducible rfl)
      try simp only [Act.put, List.getElem_toArray, List.getElem_cons_succ, List.getElem_cons_zero, List.setIfInBounds_toArray, List.set_cons_zero, List.set_cons_succ]
      refine wpAnyH_take (i := 8) (v := ?_) rfl (by as_aux_lemma => kernel_rfl) (by as_aux_lemma => kernel_rfl) (by as_aux_lemma => kernel_rfl) (fun _ _ _ h => h) (Or.inl ⟨by rfl, ?_⟩) (by assumption) ?_
      rotate_left
      · (intro w' hS; (try dsimp only at hS); go_simp; try with_reducible rfl)
      try simp only [Act.put, List.getElem_toArray, List.getElem_cons_succ, List.getElem_cons_zero, List.setIfInBounds_toArray, List.set_cons_zero, List.set_cons_succ]
      refine wpAnyH_take (i := 9) (v := ?_) rfl (by as_aux_lemma => kernel_rfl) (by as_aux_lemma => kernel_rfl) (by as_aux_lemma => kernel_rfl) (fun _ _ _ h => h) (Or.inl ⟨by rfl, ?_⟩) (by assumption) ?_
      rotate_left
      · (intro w' hS; (try dsimp only at hS); go_simp; try with_reducible rfl)
      try simp only [Act.put, List.getElem_toArray, List.getElem_cons_succ, List.getElem_cons_zero, List.setIfInBounds_toArray, List.set_cons_zero, List.set_cons_succ]
      refine wpAnyH_take (i := 10) (v := ?_) rfl (by as_aux_lemma => kernel_rfl) (by as_aux_lemma => kernel_rfl) (by as_aux_lemma => kernel_rfl) (fun _ _ _ h => h) (Or.inl ⟨by rfl, ?_⟩) (by assumption) ?_
      rotate_left
      · (intro w' hS; (try dsimp only at hS); go_simp; try with_reducible rfl)
      try simp only [Act.put, List.getElem_toArray, List.getElem_cons_succ, List.getElem_cons_zero, List.setIfInBounds_toArray, List.set_cons_zero, List.set_cons_succ]
      refine wpAnyH_take (i := 11) (v := ?_) rfl (by as_aux_lemma => kernel_rfl) (by as_aux_lemma => kernel_rfl) (by as_aux_lemma => kernel_rfl) (fun _ _ _ h => h) (Or.inl ⟨by rfl, ?_⟩) (by assumption) ?_
      rotate_left
      · (intro w' hS; (try dsimp only at hS); go_simp; try with_reducible rfl)
      try simp only [Act.put, List.getElem_toArray, List.getElem_cons_succ, List.getElem_cons_zero, List.setIfInBounds_toArray, List.set_cons_zero, List.set_cons_succ]
      refine wpAnyH_take (i := 12) (v := ?_) rfl (by as_aux_lemma => kernel_rfl) (by as_aux_lemma => kernel_rfl) (by as_aux_lemma => kernel_rfl) (fun _ _ _ h => h) (Or.inl ⟨by rfl, ?_⟩) (by assumption) ?_
      rotate_left
      · (intro w' hS; (try dsimp only at hS); go_simp; try with_reducible rfl)
      try simp only [Act.put, List.getElem_toArray, List.getElem_cons_succ, List.getElem_cons_zero, List.setIfInBounds_toArray, List.set_cons_zero, List.set_cons_succ]
      refine wpAnyH_take (i := 15) (v := ?_) rfl (by as_aux_lemma => kernel_rfl) (by as_aux_lemma => kernel_rfl) (by as_aux_lemma => kernel_rfl) (fun _ _ _ h => h) (Or.inl ⟨by rfl, ?_⟩) (by assumption) ?_
      rotate_left
      · (intro w' hS; (try dsimp only at hS); go_simp; try with_reducible rfl)
      try simp only [Act.put, List.getElem_toArray, List.getElem_cons_succ, List.getElem_cons_zero, List.setIfInBounds_toArray, List.set_cons_zero, List.set_cons_succ]
      refine wpAnyH_take (i := 16) (v := ?_) rfl (by as_aux_lemma => kernel_rfl) (by as_aux_lemma => kernel_rfl) (by as_aux_lemma => kernel_rfl) (fun _ _ _ h => h) (Or.inl ⟨by rfl, ?_⟩) (by assumption) ?_
      rotate_left
      · (intro w' hS; (try dsimp only at hS); go_simp; try with_reducible rfl)
      try simp only [Act.put, List.getElem_toArray, List.getElem_cons_succ, List.getElem_cons_zero, List.setIfInBounds_toArray, List.set_cons_zero, List.set_cons_succ]
      refine wpAnyH_take (i := 17) (v := ?_) rfl (by as_aux_lemma => kernel_rfl) (by as_aux_lemma => kernel_rfl) (by as_aux_lemma => kernel_rfl) (fun _ _ _ h => h) (Or.inl ⟨by rfl, ?_⟩) (by assumption) ?_
      rotate_left
      · (intro w' hS; (try dsimp only at hS); go_simp; try with_reducible rfl)
      try simp only [Act.put, List.getElem_toArray, List.getElem_cons_succ, List.getElem_cons_zero, List.setIfInBounds_toArray, List.set_cons_zero, List.set_cons_succ]
      refine wpAnyH_take (i := 18) (v := ?_) rfl (by as_aux_lemma => kernel_rfl) (by as_aux_lemma => kernel_rfl) (by as_aux_lemma => kernel_rfl) (fun _ _ _ h => h) (Or.inl ⟨by rfl, ?_⟩) (by assumption) ?_
      rotate_left
      · (intro w' hS; (try dsimp only at hS); go_simp; try with_reducible rfl)
      try simp only [Act.put, List.getElem_toArray, List.getElem_cons_succ, List.getElem_cons_zero, List.setIfInBounds_toArray, List.set_cons_zero, List.set_cons_succ]
      refine wpAnyH_take (i := 19) (v := ?_) rfl (by as_aux_lemma => kernel_rfl) (by as_aux_lemma => kernel_rfl) (by as_aux_lemma => kernel_rfl) (fun _ _ _ h => h) (Or.inl ⟨by rfl, ?_⟩) (by assumption) ?_
      rotate_left
      · (intro w' hS; (try dsimp only at hS); go_simp; try with_reducible rfl)
      try simp only [Act.put, List.getElem_toArray, List.getElem_cons_succ, List.getElem_cons_zero, List.setIfInBounds_toArray, List.set_cons_zero, List.set_cons_succ]
      refine wpAnyH_take (i := 20) (v := ?_) rfl (by as_aux_lemma => kernel_rfl) (by as_aux_lemma => kernel_rfl) (by as_aux_lemma => kernel_rfl) (fun _ _ _ h => h) (Or.inl ⟨by rfl, ?_⟩) (by assumption) ?_
      rotate_left
      · (intro w' hS; (try dsimp only at hS); go_simp; try with_reducible rfl)
      try simp only [Act.put, List.getElem_toArray, List.getElem_cons_succ, List.getElem_cons_zero, List.setIfInBounds_toArray, List.set_cons_zero, List.set_cons_succ]
      refine wpAnyH_take (i := 21) (v := ?_) rfl (by as_aux_lemma => kernel_rfl) (by as_aux_lemma => kernel_rfl) (by as_aux_lemma => kernel_rfl) (fun _ _ _ h => h) (Or.inl ⟨by rfl, ?_⟩) (by assumption) ?_
      rotate_left
      · (intro w' hS; (try dsimp only at hS); go_simp; try with_reducible rfl)
      try simp only [Act.put, List.getElem_toArray, List.getElem_cons_succ, List.getElem_cons_zero, List.setIfInBounds_toArray, List.set_cons_zero, List.set_cons_succ]
      refine wpAnyH_take (i := 24) (v := ?_) rfl (by as_aux_lemma => kernel_rfl) (by as_aux_lemma => kernel_rfl) (by as_aux_lemma => kernel_rfl) (fun _ _ _ h => h) (Or.inl ⟨by rfl, ?_⟩) (by assumption) ?_
      rotate_left
      · (intro w' hS; (try dsimp only at hS); go_simp; try with_reducible rfl)
      try simp only [Act.put, List.getElem_toArray, List.getElem_cons_succ, List.getElem_cons_zero, List.setIfInBounds_toArray, List.set_cons_zero, List.set_cons_succ]
      refine wpAnyH_take (i := 25) (v := ?_) rfl (by as_aux_lemma => kernel_rfl) (by as_aux_lemma => kernel_rfl) (by as_aux_lemma => kernel_rfl) (fun _ _ _ h => h) (Or.inl ⟨by rfl, ?_⟩) (by assumption) ?_
      rotate_left
      · (intro w' hS; (try dsimp only at hS); go_simp; try with_reducible rfl)
      try simp only [Act.put, List.getElem_toArray, List.getElem_cons_succ, List.getElem_cons_zero, List.setIfInBounds_toArray, List.set_cons_zero, List.set_cons_succ]
      refine wpAnyH_take (i := 26) (v := ?_) rfl (by as_aux_lemma => kernel_rfl) (by as_aux_lemma => kernel_rfl) (by as_aux_lemma => kernel_rfl) (fun _ _ _ h => h) (Or.inl ⟨by rfl, ?_⟩) (by assumption) ?_
      rotate_left
      · (intro w' hS; (try dsimp only at hS); go_simp; try with_reducible rfl)
      try simp only [Act.put, List.getElem_toArray, List.getElem_cons_succ, List.getElem_cons_zero, List.setIfInBounds_toArray, List.set_cons_zero, List.set_cons_succ]
      refine wpAnyH_take (i := 27) (v := ?_) rfl (by as_aux_lemma => kernel_rfl) (by as_aux_lemma => kernel_rfl) (by as_aux_lemma => kernel_rfl) (fun _ _ _ h => h) (Or.inl ⟨by rfl, ?_⟩) (by assumption) ?_
      rotate_left
      · (intro w' hS; (try dsimp only at hS); go_simp; try with_reducible rfl)
      try simp only [Act.put, List.getElem_toArray, List.getElem_cons_succ, List.getElem_cons_zero, List.setIfInBounds_toArray, List.set_cons_zero, List.set_cons_succ]
      refine wpAnyH_take (i := 28) (v := ?_) rfl (by as_aux_lemma => kernel_rfl) (by as_aux_lemma => kernel_rfl) (by as_aux_lemma => kernel_rfl) (fun _ _ _ h => h) (Or.inl ⟨by rfl, ?_⟩) (by assumption) ?_
      rotate_left
      · (intro w' hS; (try dsimp only at hS); go_simp; try with_reducible rfl)
      try simp only [Act.put, List.getElem_toArray, List.getElem_cons_succ, List.getElem_cons_zero, List.setIfInBounds_toArray, List.set_cons_zero, List.set_cons_succ]
      refine wpAnyH_take (i := 29) (v := ?_) rfl (by as_aux_lemma => kernel_rfl) (by as_aux_lemma => kernel_rfl) (by as_aux_lemma => kernel_rfl) (fun _ _ _ h => h) (Or.inl ⟨by rfl, ?_⟩) (by assumption) ?_
      rotate_left
      · (intro w' hS; (try dsimp only at hS); go_simp; try with_reducible rfl)
      try simp only [Act.put, List.getElem_toArray, List.getElem_cons_succ, List.getElem_cons_zero, List.setIfInBounds_toArray, List.set_cons_zero, List.set_cons_succ]
      refine wpAnyH_take (i := 30) (v := ?_) rfl (by as_aux_lemma => kernel_rfl) (by as_aux_lemma => kernel_rfl) (by as_aux_lemma => kernel_rfl) (fun _ _ _ h => h) (Or.inl ⟨by rfl, ?_⟩) (by assumption) ?_
      rotate_left
      · (intro w' hS; (try dsimp only at hS); go_simp; try with_reducible rfl)
      try simp only [Act.put, List.getElem_toArray, List.getElem_cons_succ, List.getElem_cons_zero, List.setIfInBounds_toArray, List.set_cons_zero, List.set_cons_succ]
      refine wpAnyH_ready (rs := [6]) (by as_aux_lemma => kernel_rfl) (by simp) ?_
      refine AllReadyH.cons rfl (fun K hK => ?_) AllReadyH.nil
      go_simp
      refine (HW1.out _ G2.1).mono ?_
      rintro e wx ⟨rfl, hbx⟩
      have G2 := G2.on hbx
      clear hbx
      go_wp2_with fail
      refine hK.out _ _ (G2.reads) (fun hHeld => ?_)
      clear hK K
      try simp only [Act.put, List.getElem_toArray, List.getElem_cons_succ, List.getElem_cons_zero, List.setIfInBounds_toArray, List.set_cons_zero, List.set_cons_succ]
      refine wpAnyH_ready (rs := [13]) (by as_aux_lemma => kernel_rfl) (by simp) ?_
      refine AllReadyH.cons rfl (fun K hK => ?_) AllReadyH.nil
      go_simp
      refine (HW2.out _ G2.1).mono ?_
      rintro e wx ⟨rfl, hbx⟩
      have G2 := G2.on hbx
      clear hbx
      go_wp2_with fail
      refine hK.out _ _ (G2.reads) (fun hHeld => ?_)
      clear hK K
      try simp only [Act.put, List.getElem_toArray, List.getElem_cons_succ, List.getElem_cons_zero, List.setIfInBounds_toArray, List.set_cons_zero, List.set_cons_succ]
      refine wpAnyH_take (i := 14) (v := ?_) rfl (by as_aux_lemma => kernel_rfl) (by as_aux_lemma => kernel_rfl) (by as_aux_lemma => kernel_rfl) (fun _ _ _ h => h) (Or.inl ⟨by rfl, ?_⟩) (by assumption) ?_
      rotate_left
      · (intro w' hS; (try dsimp only at hS); go_simp; try with_reducible rfl)
      try simp only [Act.put, List.getElem_toArray, List.getElem_cons_succ, List.getElem_cons_zero, List.setIfInBounds_toArray, List.set_cons_zero, List.set_cons_succ]
      refine wpAnyH_ready (rs := [22]) (by as_aux_lemma => kernel_rfl) (by simp) ?_
      refine AllReadyH.cons rfl (fun K hK => ?_) AllReadyH.nil
      go_simp
      refine (HW3.out _ G2.1).mono ?_
      rintro e wx ⟨rfl, hbx⟩
      have G2 := G2.on hbx
      clear hbx
      go_wp2_with fail
      refine hK.out _ _ (G2.reads) (fun hHeld => ?_)
      clear hK K
      try simp only [Act.put, List.getElem_toArray, List.getElem_cons_succ, List.getElem_cons_zero, List.setIfInBounds_toArray, List.set_cons_zero, List.set_cons_succ]
      refine wpAnyH_take (i := 23) (v := ?_) rfl (by as_aux_lemma => kernel_rfl) (by as_aux_lemma => kernel_rfl) (by as_aux_lemma => kernel_rfl) (fun _ _ _ h => h) (Or.inl ⟨by rfl, ?_⟩) (by assumption) ?_
      rotate_left
      · (intro w' hS; (try dsimp only at hS); go_simp; try with_reducible rfl)
      try simp only [Act.put, List.getElem_toArray, List.getElem_cons_succ, List.getElem_cons_zero, List.setIfInBounds_toArray, List.set_cons_zero, List.set_cons_succ]
      refine wpAnyH_ready (rs := [31]) (by as_aux_lemma => kernel_rfl) (by simp) ?_
      refine AllReadyH.cons rfl (fun K hK => ?_) AllReadyH.nil
      go_simp
      refine (HW4.out _ G2.1).mono ?_
      rintro e wx ⟨rfl, hbx⟩
      have G2 := G2.on hbx
      clear hbx
      go_wp2_with fail
      refine hK.out _ _ (G2.reads) (fun hHeld => ?_)
      clear hK K
      try simp only [Act.put, List.getElem_toArray, List.getElem_cons_succ, List.getElem_cons_zero, List.setIfInBounds_toArray, List.set_cons_zero, List.set_cons_succ]
      refine wpAnyH_take (i := 32) (v := ?_) rfl (by as_aux_lemma => kernel_rfl) (by as_aux_lemma => kernel_rfl) (by as_aux_lemma => kernel_rfl) (fun _ _ _ h => h) (Or.inl ⟨by rfl, ?_⟩) (by assumption) ?_
      rotate_left
      · (intro w' hS; (try dsimp only at hS); go_simp; try with_reducible rfl)
      try simp only [Act.put, List.getElem_toArray, List.getElem_cons_succ, List.getElem_cons_zero, List.setIfInBounds_toArray, List.set_cons_zero, List.set_cons_succ]
      refine wpAnyH_take (i := 33) (v := ?_) rfl (by as_aux_lemma => kernel_rfl) (by as_aux_lemma => kernel_rfl) (by as_aux_lemma => kernel_rfl) (fun _ _ _ h => h) (Or.inl ⟨by rfl, ?_⟩) (by assumption) ?_
      rotate_left
      · (intro w' hS; (try dsimp only at hS); go_simp; try with_reducible rfl)
      try simp only [Act.put, List.getElem_toArray, List.getElem_cons_succ, List.getElem_cons_zero, List.setIfInBounds_toArray, List.set_cons_zero, List.set_cons_succ]
      refine wpAnyH_done (by as_aux_lemma => kernel_rfl) ?_ _
      refine NoPanic.normal ?_
      simp only [wrap_isP]
      rw [HS.out]
      have F8 := G2.1
      clear G2 hHeld HW1 HW2 HW3 HW4 HS
      by_cases h16 : (M : Int) ≤ 16
      · obtain ⟨e2, he2⟩ : ∃ e2, e2 = M / 2 := ⟨_, rfl⟩
        have HH := Lib.hid (HHalf.out e2 he2 (by omega))
        have HZ := Lib.hid (HZero.out (by omega))
        have hdv : (M : Int) / 2 = (e2 : Int) := by omega
        have hwf : (Lit.int .i64 (e2 : Int)).wf = true := WalkArith.wf_i64 (by omega)
        have htd : (M : Int).tdiv 2 = (e2 : Int) := by rw [Int.tdiv_eq_ediv_of_nonneg (by omega)]; exact hdv
        have HP1 := Lib.hid (fun W (h : CF w pr Ar n cr xs W) => HPa.out W h (e2 : Int) hwf)
        have HP2 := Lib.hid (fun W (h : CF w pr Ar n cr xs W) => HPa.out W h 0 (by decide))
        rw [HH.out] at HP1
        rw [HZ.out] at HP2
        have c0 := F8.cell
        clear HHalf HZero HPa he2 hwf HH HZ
        go_wp2_with fail
        refine (HP1.out _ F8).mono ?_
        rintro e w11 ⟨rfl, hb11⟩
        have F9 := F8.on hb11
        have c0 := F9.cell
        clear F8 hb11 HP1
        go_wp2_with fail
        refine (HP2.out _ F9).mono ?_
        rintro e w12 ⟨rfl, hb12⟩
        have F10 := F9.on hb12
        have hb := F10.1
        clear F9 hb12 HP2 F10 c0
        go_wp2
        go_ret
        exact ⟨rfl, hb⟩
      · have hb := F8.1
        clear F8 HHalf HZero HPa
        go_wp2
        go_ret
        exact ⟨rfl, hb⟩
end Go.Proofs.Ytcncikgcieigaaa.Counts
