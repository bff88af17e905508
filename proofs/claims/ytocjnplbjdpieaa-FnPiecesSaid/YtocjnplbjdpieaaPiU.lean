/- What FnPieces adds up, cell by cell, without a program: cells minus pairs of neighbors plus squares of four; the corners where a region touches itself; a cell in its own piece; the ring of eight cells. -/
import Derived.Test.YtocjnplbjdpieaaSimp
import Derived.Test.YtocjnplbjdpieaaBlk
import Derived.Test.YtocjnplbjdpieaaRegWc
namespace Go.Proofs.Ytocjnplbjdpieaa.Flo
set_option linter.unusedVariables false
set_option linter.unusedSimpArgs false
open Go.Proofs.Ytocjnplbjdpieaa.Pure Go.Proofs.Ytocjnplbjdpieaa.Euler Go.Proofs.Ytocjnplbjdpieaa.Bal Go.Proofs.Ytocjnplbjdpieaa.Reg

def b2i (b : Bool) : Int := if b then 1 else 0
theorem b2i_le (b : Bool) : 0 ≤ b2i b ∧ b2i b ≤ 1 := by cases b <;> decide
/-- what a cell adds. -/
def addP (xs : List Int) (p : Int × Int) : Int := b2i (hasB xs (p.1 + 1) p.2 && hasB xs p.1 (p.2 + 1) && hasB xs (p.1 + 1) (p.2 + 1)) - b2i (hasB xs (p.1 + 1) p.2) - b2i (hasB xs p.1 (p.2 + 1))
/-- does the region touch itself at a corner of a cell, as the law looks. -/
def tchP (xs : List Int) (p : Int × Int) : Bool := (hasB xs (p.1 + 1) (p.2 + 1) && !hasB xs (p.1 + 1) p.2 && !hasB xs p.1 (p.2 + 1)) || (hasB xs (p.1 - 1) (p.2 + 1) && !hasB xs (p.1 - 1) p.2 && !hasB xs p.1 (p.2 + 1))
def sumTo (f : Int × Int → Int) (L : List (Int × Int)) : Nat → Int
  | 0 => L.length
  | k + 1 => sumTo f L k + f (L.getD k (0, 0))
def anyTo (f : Int × Int → Bool) (L : List (Int × Int)) : Nat → Bool
  | 0 => false
  | k + 1 => anyTo f L k || f (L.getD k (0, 0))
theorem sumTo_le (xs : List Int) (L : List (Int × Int)) : ∀ k : Nat, (L.length : Int) - 2 * k ≤ sumTo (addP xs) L k ∧ sumTo (addP xs) L k ≤ L.length + k
  | 0 => ⟨by unfold sumTo; omega, by unfold sumTo; omega⟩
  | k + 1 => by
    have h := sumTo_le xs L k
    have hp : ∀ p, -2 ≤ addP xs p ∧ addP xs p ≤ 1 := fun p => by
      have h1 := b2i_le (hasB xs (p.1 + 1) p.2 && hasB xs p.1 (p.2 + 1) && hasB xs (p.1 + 1) (p.2 + 1))
      have h2 := b2i_le (hasB xs (p.1 + 1) p.2)
      have h3 := b2i_le (hasB xs p.1 (p.2 + 1))
      unfold addP
      omega
    have hq := hp (L.getD k (0, 0))
    show _ ≤ sumTo (addP xs) L k + addP xs (L.getD k (0, 0)) ∧ sumTo (addP xs) L k + addP xs (L.getD k (0, 0)) ≤ _
    generalize addP xs (L.getD k (0, 0)) = z at hq ⊢
    omega
theorem sumTo_app (f : Int × Int → Int) (L M : List (Int × Int)) : ∀ k, k ≤ L.length → sumTo f (L ++ M) k = sumTo f L k + M.length
  | 0, _ => by unfold sumTo; rw [List.length_append]; omega
  | k + 1, h => by
    show sumTo f (L ++ M) k + f ((L ++ M).getD k (0, 0)) = sumTo f L k + f (L.getD k (0, 0)) + M.length
    rw [sumTo_app f L M k (by omega)]
    have : (L ++ M).getD k (0, 0) = L.getD k (0, 0) := by simp only [List.getD]; rw [List.getElem?_append_left (by omega)]
    rw [this]; omega
theorem anyTo_app (f : Int × Int → Bool) (L M : List (Int × Int)) : ∀ k, k ≤ L.length → anyTo f (L ++ M) k = anyTo f L k
  | 0, _ => rfl
  | k + 1, h => by
    show (anyTo f (L ++ M) k || f ((L ++ M).getD k (0, 0))) = (anyTo f L k || f (L.getD k (0, 0)))
    rw [anyTo_app f L M k (by omega)]
    have : (L ++ M).getD k (0, 0) = L.getD k (0, 0) := by simp only [List.getD]; rw [List.getElem?_append_left (by omega)]
    rw [this]
def cellsI (xs : List Int) (n : Nat) : List (Int × Int) := ((List.range n).filter (bitI xs)).map cellI
theorem cellsI_yes {xs : List Int} {n : Nat} (h : bitI xs n = true) : cellsI xs (n + 1) = cellsI xs n ++ [cellI n] := by unfold cellsI; rw [List.range_succ, List.filter_append, List.map_append]; simp [h]
theorem cellsI_no {xs : List Int} {n : Nat} (h : bitI xs n = false) : cellsI xs (n + 1) = cellsI xs n := by unfold cellsI; rw [List.range_succ, List.filter_append, List.map_append]; simp [h]
theorem snoc_sum (f : Int × Int → Int) (L : List (Int × Int)) (p : Int × Int) : sumTo f (L ++ [p]) (L ++ [p]).length = sumTo f L L.length + 1 + f p := by
  rw [List.length_append, show L.length + [p].length = L.length + 1 from rfl]
  show sumTo f (L ++ [p]) L.length + f ((L ++ [p]).getD L.length (0, 0)) = _
  rw [sumTo_app f L [p] L.length (Nat.le_refl _)]
  have : (L ++ [p]).getD L.length (0, 0) = p := by simp [List.getD]
  rw [this]; rfl
theorem snoc_any (f : Int × Int → Bool) (L : List (Int × Int)) (p : Int × Int) : anyTo f (L ++ [p]) (L ++ [p]).length = (anyTo f L L.length || f p) := by
  rw [List.length_append, show L.length + [p].length = L.length + 1 from rfl]
  show (anyTo f (L ++ [p]) L.length || f ((L ++ [p]).getD L.length (0, 0))) = _
  rw [anyTo_app f L [p] L.length (Nat.le_refl _)]
  have : (L ++ [p]).getD L.length (0, 0) = p := by simp [List.getD]
  rw [this]
theorem sum_cells (xs : List Int) : ∀ n, sumTo (addP xs) (cellsI xs n) (cellsI xs n).length = (cnt n (bitI xs) : Int) + cnt n (fun i => bitI xs i && (hasR xs i && hasD xs i && hasX xs i)) - cnt n (fun i => bitI xs i && hasR xs i) - cnt n (fun i => bitI xs i && hasD xs i)
  | 0 => rfl
  | n + 1 => by
    have ih := sum_cells xs n
    cases hb : bitI xs n
    · rw [cellsI_no hb, ih]
      simp only [cnt, hb, Bool.false_and, Bool.toNat_false, Nat.add_zero]
    · rw [cellsI_yes hb, snoc_sum, ih]
      have e : addP xs (cellI n) = b2i (hasR xs n && hasD xs n && hasX xs n) - b2i (hasR xs n) - b2i (hasD xs n) := rfl
      rw [e]
      simp only [cnt, hb, Bool.true_and, Bool.toNat_true]
      cases hasR xs n <;> cases hasD xs n <;> cases hasX xs n <;> simp only [b2i, Bool.and_true, Bool.and_false, Bool.false_and, Bool.true_and, Bool.toNat_true, Bool.toNat_false, if_true, if_false, Bool.false_eq_true] <;> omega
theorem cells_is {xs : List Int} (ho : okR xs) : cellsR xs = cellsI xs 64 := cellsR_ok ho
/-- cells minus pairs of neighbors plus squares of four is pieces minus holes. -/
theorem sum_all {xs : List Int} (ho : okR xs) : sumTo (addP xs) (cellsR xs) (cellsR xs).length = ((pcsN xs : Nat) : Int) - ((holN xs : Nat) : Int) := by
  rw [cells_is ho, sum_cells xs 64]
  have h := euler64 ho
  have h1 := outs_pos xs
  unfold pcsN holN
  rw [if_pos ho, if_pos ho]
  omega
theorem any_cells (xs : List Int) : ∀ n, anyTo (tchP xs) (cellsI xs n) (cellsI xs n).length = true ↔ ∃ i, i < n ∧ bitI xs i = true ∧ touchOf xs i = true
  | 0 => ⟨fun h => (by cases h), fun ⟨i, h, _⟩ => (by omega)⟩
  | n + 1 => by
    have ih := any_cells xs n
    have e : tchP xs (cellI n) = touchOf xs n := rfl
    cases hb : bitI xs n
    · rw [cellsI_no hb, ih]
      constructor
      · rintro ⟨i, h1, h2⟩; exact ⟨i, by omega, h2⟩
      · rintro ⟨i, h1, h2, h3⟩
        by_cases q : i = n
        · subst q; rw [hb] at h2; cases h2
        · exact ⟨i, by omega, h2, h3⟩
    · rw [cellsI_yes hb, snoc_any, Bool.or_eq_true, ih, e]
      constructor
      · rintro (⟨i, h1, h2⟩ | h)
        · exact ⟨i, by omega, h2⟩
        · exact ⟨n, by omega, hb, h⟩
      · rintro ⟨i, h1, h2, h3⟩
        by_cases q : i = n
        · subst q; exact .inr h3
        · exact .inl ⟨i, by omega, h2, h3⟩
theorem any_all {xs : List Int} (ho : okR xs) : anyTo (tchP xs) (cellsR xs) (cellsR xs).length = touchB xs := by
  rw [cells_is ho, Bool.eq_iff_iff, any_cells xs 64, touchB_iff, touch_iff ho]
/-- a cell lies in its own piece. -/
theorem in_piece {xs : List Int} (ho : okR xs) {k : Nat} {p : Int × Int} (hk : (cellsR xs)[k]? = some p) : p ∈ pieceR xs p.1 p.2 := by
  have hkl : k < (cellsR xs).length := by
    rcases Nat.lt_or_ge k (cellsR xs).length with q | q
    · exact q
    · rw [List.getElem?_eq_none q] at hk; cases hk
  have hm : p ∈ cellsR xs := List.mem_of_getElem? hk
  rw [cells_is ho] at hm
  unfold cellsI at hm
  obtain ⟨j, hj, rfl⟩ := List.mem_map.1 hm
  obtain ⟨h1, h2⟩ := List.mem_filter.1 hj
  have hj64 := List.mem_range.1 h1
  have hh : hasB xs (cellI j).1 (cellI j).2 = true := by
    unfold cellI; simp only
    rw [has_at ho (by omega) (by omega)]; exact h2
  unfold pieceR
  rw [if_pos hh]
  have e : 8 * (cellI j).2.toNat + (cellI j).1.toNat = j := by unfold cellI; simp only; omega
  rw [e]
  unfold pieceTo
  refine List.mem_map.2 ⟨j, List.mem_filter.2 ⟨List.mem_range.2 hj64, ?_⟩, rfl⟩
  rw [h2, sameP_refl]; rfl
def eqP (p q : Int × Int) : Bool := decide (p.1 = q.1 ∧ p.2 = q.2)
theorem found_all {p : Int × Int} {L : List (Int × Int)} (h : p ∈ L) : anyTo (fun q => eqP q p) L L.length = true := by
  obtain ⟨i, hi, e⟩ := List.getElem_of_mem h
  have key : ∀ k, i < k → k ≤ L.length → anyTo (fun q => eqP q p) L k = true := by
    intro k
    induction k with
    | zero => intro h; omega
    | succ k ih =>
      intro h1 h2
      show (anyTo (fun q => eqP q p) L k || eqP (L.getD k (0, 0)) p) = true
      by_cases q : i = k
      · subst q
        have : L.getD i (0, 0) = p := by simp [List.getD, List.getElem?_eq_getElem hi, e]
        rw [this]; simp [eqP]
      · rw [ih (by omega) (by omega)]; rfl
  exact key L.length hi (Nat.le_refl _)
/-- the ring of eight cells. -/
def ringL : List Int := [7, 5, 7, 0, 0, 0, 0, 0]
theorem ring_is : withX (rectR 3 3) 1 1 false = ringL := by decide +kernel
theorem ring_ok : okR ringL := by decide
theorem ring_nb : ∀ i, i < 64 → bitI ringL i = true → sameP ringL i 0 = true := by
  have hp : ∀ i j, i < 64 → j < 64 → nbI i j → bitI ringL i = true → bitI ringL j = true → lab (pe ringL) (io i) = lab (pe ringL) (io j) := fun i j a b c d e => pe_join a b c d e
  have b0 : bitI ringL 0 = true := by decide
  have b1 : bitI ringL 1 = true := by decide
  have b2 : bitI ringL 2 = true := by decide
  have b8 : bitI ringL 8 = true := by decide
  have b10 : bitI ringL 10 = true := by decide
  have b16 : bitI ringL 16 = true := by decide
  have b17 : bitI ringL 17 = true := by decide
  have b18 : bitI ringL 18 = true := by decide
  have e1 := hp 0 1 (by omega) (by omega) (by unfold nbI; omega) b0 b1
  have e2 := hp 1 2 (by omega) (by omega) (by unfold nbI; omega) b1 b2
  have e3 := hp 2 10 (by omega) (by omega) (by unfold nbI; omega) b2 b10
  have e4 := hp 10 18 (by omega) (by omega) (by unfold nbI; omega) b10 b18
  have e5 := hp 0 8 (by omega) (by omega) (by unfold nbI; omega) b0 b8
  have e6 := hp 8 16 (by omega) (by omega) (by unfold nbI; omega) b8 b16
  have e7 := hp 16 17 (by omega) (by omega) (by unfold nbI; omega) b16 b17
  have hc : ∀ i : Nat, i < 64 → bitI ringL i = true → i = 0 ∨ i = 1 ∨ i = 2 ∨ i = 8 ∨ i = 10 ∨ i = 16 ∨ i = 17 ∨ i = 18 := by decide +kernel
  intro i hi hb
  unfold sameP
  rw [beq_iff_eq]
  rcases hc i hi hb with rfl | rfl | rfl | rfl | rfl | rfl | rfl | rfl
  · rfl
  · exact e1
  · exact e1.trans e2
  · exact e5
  · exact (e1.trans e2).trans e3
  · exact e5.trans e6
  · exact (e5.trans e6).trans e7
  · exact ((e1.trans e2).trans e3).trans e4
theorem ring_piece : piecesN ringL = 1 := by
  have h : ∀ i, i < 64 → (bitI ringL i && leastI ringL i) = (i == 0) := by
    intro i hi
    rw [Bool.eq_iff_iff]
    simp only [Bool.and_eq_true, beq_iff_eq]
    constructor
    · rintro ⟨hb, hl⟩
      rcases Nat.eq_zero_or_pos i with q | q
      · exact q
      · have := leastI_iff.1 hl 0 q (by decide)
        rw [ring_nb i hi hb] at this; cases this
    · rintro rfl
      exact ⟨by decide, leastI_iff.2 (fun j hj => by omega)⟩
  unfold piecesN
  rw [cnt_same 64 h]
  rfl
theorem ring_counts : cnt 64 (bitI ringL) = 8 ∧ cnt 64 (fun i => bitI ringL i && (hasR ringL i && hasD ringL i && hasX ringL i)) = 0 ∧ cnt 64 (fun i => bitI ringL i && hasR ringL i) = 4 ∧ cnt 64 (fun i => bitI ringL i && hasD ringL i) = 4 := by decide +kernel
theorem ring_holes : holN ringL = 1 := by
  have h := euler64 ring_ok
  obtain ⟨h1, h2, h3, h4⟩ := ring_counts
  rw [h1, h2, h3, h4, ring_piece] at h
  unfold holN
  rw [if_pos ring_ok]
  omega
theorem one_piece : pcsN (rectR 1 1) = 1 := by
  have e : rectR 1 1 = [1] := by decide +kernel
  rw [e]
  unfold pcsN
  rw [if_pos (by decide)]
  have h : ∀ i, i < 64 → (bitI [1] i && leastI [1] i) = (i == 0) := by
    intro i hi
    have hc : ∀ i : Nat, i < 64 → bitI [1] i = true → i = 0 := by decide +kernel
    rw [Bool.eq_iff_iff]
    simp only [Bool.and_eq_true, beq_iff_eq]
    exact ⟨fun q => hc i hi q.1, fun q => by subst q; exact ⟨by decide, leastI_iff.2 (fun j hj => by omega)⟩⟩
  unfold piecesN
  rw [cnt_same 64 h]
  rfl
end Go.Proofs.Ytocjnplbjdpieaa.Flo
