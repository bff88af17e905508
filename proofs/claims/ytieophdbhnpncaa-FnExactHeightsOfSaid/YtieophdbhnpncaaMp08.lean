/- CntR in one text. -/
import Derived.Test.YtieophdbhnpncaaMp07

/- The count for regions given as rows: a domino's cells taken out, rectangles, the list of the cells: no program here. -/
namespace Go.Proofs.Ytieophdbhnpncaa.Cnt
set_option linter.unusedVariables false
set_option linter.unusedSimpArgs false
open Go.RowKit Go.Proofs.Ytieophdbhnpncaa.Pure

/-- the cells of a region. -/
def gR (xs : List Int) : Nat → Bool := fun j => decide (j < 64) && bitB (rowD xs (j / 8)) (j % 8)
theorem gR_out (xs : List Int) : ∀ j, 64 ≤ j → gR xs j = false := fun j h => by unfold gR; rw [decide_eq_false (by omega)]; rfl
theorem gR_in {xs : List Int} {j : Nat} (h : j < 64) : gR xs j = bitB (rowD xs (j / 8)) (j % 8) := by unfold gR; rw [decide_eq_true h]; rfl
theorem put_bit : ∀ r : Fin 256, ∀ k : Fin 8, ∀ i : Fin 8, bitB (putB ((r.val : Nat) : Int) k.val false) i.val = (bitB ((r.val : Nat) : Int) i.val && decide (i.val ≠ k.val)) := by decide +kernel
theorem okR_with {xs : List Int} (ho : okR xs) {x y : Nat} (hx : x < 8) (hy : y < 8) : okR (withR xs x y false) := by
  refine ⟨by rw [withR_length ho.1]; omega, fun r hr => ?_⟩
  obtain ⟨i, hi, e⟩ := List.getElem_of_mem hr
  have h := rowD_with ho.1 x hy false i
  rw [rowD_at (List.getElem?_eq_getElem hi), e] at h
  rw [h]
  have r0 := rowD_ok ho y
  have t := table r0.1 r0.2 hx
  by_cases q : i = y
  · rw [if_pos q]; exact ⟨t.2.2.2.2.2.2.2.1, t.2.2.2.2.2.2.2.2.1⟩
  · rw [if_neg q]; exact rowD_ok ho i
theorem gR_with {xs : List Int} (ho : okR xs) {x y : Nat} (hx : x < 8) (hy : y < 8) (j : Nat) : gR (withR xs x y false) j = (gR xs j && decide (j ≠ y * 8 + x)) := by
  by_cases h : j < 64
  · rw [gR_in h, gR_in h, rowD_with ho.1 x hy]
    by_cases q : j / 8 = y
    · rw [if_pos q, q]
      have r0 := rowD_ok ho y
      have t := put_bit ⟨(rowD xs y).toNat, by omega⟩ ⟨x, hx⟩ ⟨j % 8, Nat.mod_lt _ (by omega)⟩
      have e : (((rowD xs y).toNat : Nat) : Int) = rowD xs y := Int.toNat_of_nonneg r0.1
      simp only [e] at t
      rw [t]
      congr 1
      rw [Bool.eq_iff_iff, decide_eq_true_iff, decide_eq_true_iff]
      omega
    · rw [if_neg q, decide_eq_true (show j ≠ y * 8 + x by omega), Bool.and_true]
  · rw [gR_out _ j (by omega), gR_out _ j (by omega)]; rfl
theorem gR_two {xs : List Int} (ho : okR xs) {x y u v : Nat} (hx : x < 8) (hy : y < 8) (hu : u < 8) (hv : v < 8) : gR (withR (withR xs x y false) u v false) = rem (gR xs) (y * 8 + x) (v * 8 + u) := by
  funext j
  rw [gR_with (okR_with ho hx hy) hu hv, gR_with ho hx hy]; rfl
/-- the tilings of a region, as a number of 64 bits. -/
def tilesR (xs : List Int) : Int := if okR xs then wrap64 (tiles (gR xs) : Int) else 0
theorem tilesR_ok {xs : List Int} (h : okR xs) : tilesR xs = wrap64 (tiles (gR xs) : Int) := if_pos h
theorem tilesR_not {xs : List Int} (h : ¬ okR xs) : tilesR xs = 0 := if_neg h
/-- a rectangle's cells. -/
def gq (a b : Nat) : Nat → Bool := fun j => decide (j % 8 < a) && decide (j / 8 < b)
theorem gq_table : ∀ a : Fin 9, ∀ b : Fin 9, ∀ j : Fin 64, 1 ≤ a.val → 1 ≤ b.val → gR (rectR ((a.val : Nat) : Int) ((b.val : Nat) : Int)) j.val = gq a.val b.val j.val := by decide +kernel
theorem rect_gq {a b : Nat} (ha : 1 ≤ a ∧ a ≤ 8) (hb : 1 ≤ b ∧ b ≤ 8) : gR (rectR (a : Int) (b : Int)) = gq a b := by
  funext j
  by_cases h : j < 64
  · exact gq_table ⟨a, by omega⟩ ⟨b, by omega⟩ ⟨j, h⟩ ha.1 hb.1
  · rw [gR_out _ j (by omega)]
    unfold gq
    rw [decide_eq_false (show ¬ j / 8 < b by omega), Bool.and_false]
theorem rect_ok {a b : Nat} (ha : 1 ≤ a ∧ a ≤ 8) (hb : 1 ≤ b ∧ b ≤ 8) : okR (rectR (a : Int) (b : Int)) := by
  have : ∀ a : Fin 9, ∀ b : Fin 9, 1 ≤ a.val → 1 ≤ b.val → okR (rectR ((a.val : Nat) : Int) ((b.val : Nat) : Int)) := by decide +kernel
  exact this ⟨a, by omega⟩ ⟨b, by omega⟩ ha.1 hb.1
theorem rect_tiles {a b : Nat} (ha : 1 ≤ a ∧ a ≤ 8) (hb : 1 ≤ b ∧ b ≤ 8) : tilesR (rectR (a : Int) (b : Int)) = wrap64 (W (gq a b) 64 0 0 : Int) := by
  rw [tilesR_ok (rect_ok ha hb), ← W_tiles (gR_out _), rect_gq ha hb]
theorem sym_table : ∀ a : Fin 6, ∀ b : Fin 6, 1 ≤ a.val → 1 ≤ b.val → W (gq a.val b.val) 64 0 0 = W (gq b.val a.val) 64 0 0 := by decide +kernel
theorem rect_sym {a b : Nat} (ha : 1 ≤ a ∧ a ≤ 5) (hb : 1 ≤ b ∧ b ≤ 5) : tilesR (rectR (a : Int) (b : Int)) = tilesR (rectR (b : Int) (a : Int)) := by
  rw [rect_tiles (by omega) (by omega), rect_tiles (by omega) (by omega), sym_table ⟨a, by omega⟩ ⟨b, by omega⟩ ha.1 hb.1]
theorem rect_25 : tilesR (rectR 2 5) = 8 := by
  have h := rect_tiles (a := 2) (b := 5) (by omega) (by omega)
  have e : W (gq 2 5) 64 0 0 = 8 := by decide +kernel
  rw [e] at h
  show tilesR (rectR ((2 : Nat) : Int) ((5 : Nat) : Int)) = 8
  rw [h]; unfold wrap64; omega
theorem some_table : ∀ a : Fin 5, ∀ b : Fin 5, (a.val = 2 ∨ a.val = 4) → 2 ≤ b.val → 1 ≤ W (gq a.val b.val) 64 0 0 ∧ W (gq a.val b.val) 64 0 0 ≤ 300 := by decide +kernel
theorem rect_some {a b : Nat} (ha : a = 2 ∨ a = 4) (hb : 2 ≤ b ∧ b ≤ 4) : 1 ≤ tilesR (rectR (a : Int) (b : Int)) ∧ tilesR (rectR (a : Int) (b : Int)) ≤ 300 := by
  rw [rect_tiles (by omega) (by omega)]
  have := some_table ⟨a, by omega⟩ ⟨b, by omega⟩ ha hb.1
  unfold wrap64
  simp only at this
  omega
/-- the indexes of the cells. -/
def idxs (xs : List Int) : List Nat := (List.range 64).filter (gR xs)
theorem idxs_cells (xs : List Int) : cellsTo xs 64 = (idxs xs).map fun j => (((j % 8 : Nat) : Int), ((j / 8 : Nat) : Int)) := by
  unfold cellsTo idxs
  have e : (List.range 64).filter (fun j => bitB (rowD xs (j / 8)) (j % 8)) = (List.range 64).filter (gR xs) := List.filter_congr (fun j hj => (gR_in (List.mem_range.1 hj)).symm)
  rw [e]
def plcN (xs : List Int) (i : Nat) : Nat := (idxs xs).getD i 64
theorem plcN_at {xs : List Int} {i : Nat} (h : i < (idxs xs).length) : plcN xs i = (idxs xs)[i] := by unfold plcN; simp [List.getD, h]
theorem idxs_lists (xs : List Int) : Lists (gR xs) (plcN xs) (idxs xs).length := by
  refine ⟨fun i j hij hj => ?_, fun i hi => ?_, fun j hj hg => ?_⟩
  · rw [plcN_at (by omega), plcN_at hj]
    have hp : (idxs xs).Pairwise (· < ·) := List.Pairwise.filter _ List.pairwise_lt_range
    exact List.pairwise_iff_getElem.1 hp i j (by omega) hj hij
  · rw [plcN_at hi]
    have := List.mem_filter.1 (List.getElem_mem hi : (idxs xs)[i] ∈ idxs xs)
    exact ⟨List.mem_range.1 this.1, this.2⟩
  · obtain ⟨i, hi, e⟩ := List.getElem_of_mem (List.mem_filter.2 ⟨List.mem_range.2 hj, hg⟩ : j ∈ idxs xs)
    exact ⟨i, hi, by rw [plcN_at hi]; exact e⟩
theorem cnt_range (g : Nat → Bool) : ∀ n k, cnt n k g = ((List.range' k n).filter g).length
  | 0, k => rfl
  | n + 1, k => by
    rw [List.range'_succ]
    show (if g k = true then 1 else 0) + cnt n (k + 1) g = _
    rw [cnt_range g n (k + 1)]
    by_cases h : g k = true
    · rw [if_pos h, List.filter_cons_of_pos h, List.length_cons]; omega
    · rw [if_neg h, List.filter_cons_of_neg h]; omega
theorem idxs_cnt (xs : List Int) : cnt 64 0 (gR xs) = (idxs xs).length := by
  rw [cnt_range]; unfold idxs; rw [List.range_eq_range']
/-- the partial tilings with n dominoes. -/
def partsN (xs : List Int) (m : Nat) : Nat := P 64 0 m (gR xs)
theorem R_parts (xs : List Int) (m : Nat) : R (plcN xs) (idxs xs).length (idxs xs).length 0 m (fun _ => false) = partsN xs m := by
  have := R_P (idxs_lists xs) (idxs xs).length 0 m 0 (fun _ => false) (gR xs) (by omega) (by omega) (fun i hi => by omega) (fun i _ _ => Nat.zero_le _) (fun j _ => ?_)
  · exact this
  · constructor
    · intro h
      have h64 : j < 64 := by
        by_cases q : j < 64
        · exact q
        · rw [gR_out xs j (by omega)] at h; cases h
      obtain ⟨i, hi, e⟩ := (idxs_lists xs).all j h64 h
      exact ⟨i, hi, e, rfl⟩
    · rintro ⟨i, hi, e, _⟩
      rw [← e]; exact ((idxs_lists xs).mem i hi).2
/-- half as many dominoes as cells: the tilings. -/
theorem parts_half {xs : List Int} {m : Nat} (h : (idxs xs).length = 2 * m) : partsN xs m = tiles (gR xs) :=
  P_all (by omega) (fun i hi => by omega) (by rw [idxs_cnt]; exact h)
theorem parts_none (xs : List Int) : partsN xs 0 = 1 := P_zero _ _ _
theorem parts_many {xs : List Int} {m : Nat} (h : (idxs xs).length < 2 * m) : partsN xs m = 0 := P_few (by omega) (by rw [idxs_cnt]; exact h)
/-- a region with a tiling has an even number of cells. -/
theorem T_even : ∀ (n k : Nat) (g : Nat → Bool), k + n = 64 → (∀ i, i < k → g i = false) → T n k g ≠ 0 → cnt n k g % 2 = 0
  | 0, _, _, _, _, _ => rfl
  | n + 1, k, g, hk, h0, h => by
    have hc : cnt (n + 1) k g = (if g k = true then 1 else 0) + cnt n (k + 1) g := rfl
    by_cases q : g k = true
    · rw [T_yes q] at h
      have : ∃ e, e < 64 ∧ adj k e = true ∧ g e = true ∧ T n (k + 1) (rem g k e) ≠ 0 := by
        refine Classical.byContradiction (fun hn => h (sm_zero (fun e he => ?_)))
        by_cases p : adj k e = true ∧ g e = true
        · rw [if_pos p]
          exact Classical.byContradiction (fun r => hn ⟨e, he, p.1, p.2, r⟩)
        · rw [if_neg p]
      obtain ⟨e, he, ha, hge, hT⟩ := this
      have hke : k < e := by
        by_cases r : e < k
        · rw [h0 e r] at hge; cases hge
        · have := adj_ne ha; omega
      have ih := T_even n (k + 1) (rem g k e) (by omega) (fun i hi => by
        rw [Bool.eq_false_iff, Ne, rem_iff]
        rintro ⟨h1, h2, h3⟩
        rw [h0 i (by omega)] at h1; cases h1) hT
      have := cnt_rem (n := n) (k := k + 1) (a := k) (b := e) (g := g) (by omega) (by omega) (by omega) hge
      rw [if_pos q] at hc
      omega
    · rw [if_neg q] at hc
      rw [T_no (by simpa using q)] at h
      have := T_even n (k + 1) g (by omega) (fun i hi => by
        by_cases r : i = k
        · rw [r]; simpa using q
        · exact h0 i (by omega)) h
      omega
theorem tiles_even {xs : List Int} (h : tiles (gR xs) ≠ 0) : (idxs xs).length % 2 = 0 := by
  rw [← idxs_cnt]; exact T_even 64 0 _ (by omega) (fun i hi => by omega) h
/-- each cell is covered once. -/
theorem tiles_cell {xs : List Int} {c : Nat} (hc : c < 64) (hg : gR xs c = true) : tiles (gR xs) =
    (if c % 8 ≠ 7 then (if gR xs (c + 1) = true then tiles (rem (gR xs) c (c + 1)) else 0) else 0) + (if c + 8 < 64 then (if gR xs (c + 8) = true then tiles (rem (gR xs) c (c + 8)) else 0) else 0)
    + (if c % 8 ≠ 0 then (if gR xs (c - 1) = true then tiles (rem (gR xs) c (c - 1)) else 0) else 0) + (if 8 ≤ c then (if gR xs (c - 8) = true then tiles (rem (gR xs) c (c - 8)) else 0) else 0) := by
  have h := T_any 64 0 (gR xs) c (by omega) (fun i hi => by omega) hc hg
  have e : ∀ b, b < 64 → (if adj c b = true ∧ gR xs b = true then T 64 0 (rem (gR xs) c b) else 0) = (if adj c b = true then (if gR xs b = true then tiles (rem (gR xs) c b) else 0) else 0) := by
    intro b _
    unfold tiles
    by_cases p : adj c b = true <;> by_cases q : gR xs b = true <;> simp [p, q]
  rw [sm_congr e, sm_four hc (fun b => if gR xs b = true then tiles (rem (gR xs) c b) else 0)] at h
  exact h
end Go.Proofs.Ytieophdbhnpncaa.Cnt
