/- Pieces and holes of a region, without a program: the model of PieceOf, CountPieces, CountHoles; when a flood of cells is done. -/
import Derived.Test.YtocjnplbjdpieaaEulerN
import Derived.Test.YtocjnplbjdpieaaPure
namespace Go.Proofs.Ytocjnplbjdpieaa.Bal
set_option linter.unusedVariables false
open Go.Proofs.Ytocjnplbjdpieaa.Pure Go.Proofs.Ytocjnplbjdpieaa.Euler

/-- whether the cell of an index belongs to a region, and whether the place in the square of ten by ten does. -/
def bitI (xs : List Int) (j : Nat) : Bool := bitB (rowD xs (j / 8)) (j % 8)
def cR (xs : List Int) (v : Nat) : Bool := !ring v && bitI xs (oi v)
theorem cR_ring (xs : List Int) (v : Nat) (hv : v < 100) (h : ring v = true) : cR xs v = false := by unfold cR; rw [h]; rfl
theorem cR_io (xs : List Int) {i : Nat} (h : i < 64) : cR xs (io i) = bitI xs i := by unfold cR; rw [(io_lt h).2, oi_io]; rfl
theorem cR_in {xs : List Int} {v : Nat} (hv : v < 100) (h : cR xs v = true) : oi v < 64 ∧ io (oi v) = v ∧ bitI xs (oi v) = true := by
  unfold cR at h
  simp only [Bool.and_eq_true, Bool.not_eq_true'] at h
  exact ⟨oi_lt hv h.1, io_oi h.1, h.2⟩
/-- neighbors, by their indexes. -/
def nbI (i j : Nat) : Prop := (i / 8 = j / 8 ∧ (i = j + 1 ∨ j = i + 1)) ∨ i = j + 8 ∨ j = i + 8
theorem nbI.symm {i j : Nat} (h : nbI i j) : nbI j i := by unfold nbI at h ⊢; omega
/-- the sides inside a region. -/
def pe (xs : List Int) : List (Nat × Nat) := (eR (cR xs)).map gE
theorem pe_mem {xs : List Int} {k : Nat} (hk : k < 180) (h1 : cR xs (gE k).1 = true) (h2 : cR xs (gE k).2 = true) : gE k ∈ pe xs :=
  List.mem_map_of_mem (List.mem_filter.2 ⟨List.mem_range.2 hk, by unfold inR; rw [h1, h2]; rfl⟩)
theorem pe_join1 {xs : List Int} {i j : Nat} (hi : i < 64) (hj : j < 64) (h : (i / 8 = j / 8 ∧ j = i + 1) ∨ j = i + 8) (h1 : bitI xs i = true) (h2 : bitI xs j = true) : (io i, io j) ∈ pe xs := by
  have c1 := (cR_io xs hi).trans h1
  have c2 := (cR_io xs hj).trans h2
  rcases h with ⟨a, b⟩ | b
  · have e : gE (9 * (i / 8 + 1) + (i % 8 + 1)) = (io i, io j) := by
      unfold gE io
      rw [if_pos (by omega)]
      exact Prod.ext (by simp only; omega) (by simp only; omega)
    have := pe_mem (xs := xs) (k := 9 * (i / 8 + 1) + (i % 8 + 1)) (by omega) (by rw [e]; exact c1) (by rw [e]; exact c2)
    rwa [e] at this
  · have e : gE (90 + io i) = (io i, io j) := by
      unfold gE io
      rw [if_neg (by omega)]
      exact Prod.ext (by simp only; omega) (by simp only; omega)
    have l := (io_lt hi).1
    have l2 := (io_lt hj).1
    have := pe_mem (xs := xs) (k := 90 + io i) (by unfold io at l2 ⊢; omega) (by rw [e]; exact c1) (by rw [e]; exact c2)
    rwa [e] at this
theorem pe_join {xs : List Int} {i j : Nat} (hi : i < 64) (hj : j < 64) (h : nbI i j) (h1 : bitI xs i = true) (h2 : bitI xs j = true) : lab (pe xs) (io i) = lab (pe xs) (io j) := by
  unfold nbI at h
  by_cases a : i < j
  · exact lab_edge _ _ (pe_join1 hi hj (by omega) h1 h2)
  · exact (lab_edge _ _ (pe_join1 hj hi (by omega) h2 h1)).symm
theorem gE_nb : ∀ k, k < 180 → ring (gE k).1 = false → ring (gE k).2 = false → (oi (gE k).1 / 8 = oi (gE k).2 / 8 ∧ oi (gE k).2 = oi (gE k).1 + 1) ∨ oi (gE k).2 = oi (gE k).1 + 8 := by decide +kernel
theorem pe_ends {xs : List Int} {e : Nat × Nat} (h : e ∈ pe xs) : ∃ i j, i < 64 ∧ j < 64 ∧ e = (io i, io j) ∧ nbI i j ∧ bitI xs i = true ∧ bitI xs j = true := by
  obtain ⟨k, hk, rfl⟩ := List.mem_map.1 h
  obtain ⟨h1, h2⟩ := List.mem_filter.1 hk
  have hk := List.mem_range.1 h1
  simp only [inR, Bool.and_eq_true] at h2
  have l := gE_lt k hk
  obtain ⟨a1, b1, c1⟩ := cR_in l.1 h2.1
  obtain ⟨a2, b2, c2⟩ := cR_in l.2 h2.2
  have r1 : ring (gE k).1 = false := by have := (io_lt a1).2; rwa [b1] at this
  have r2 : ring (gE k).2 = false := by have := (io_lt a2).2; rwa [b2] at this
  have q := gE_nb k hk r1 r2
  exact ⟨_, _, a1, a2, by rw [b1, b2], by unfold nbI; omega, c1, c2⟩
/-- whether two cells lie in one piece. -/
def sameP (xs : List Int) (i j : Nat) : Bool := lab (pe xs) (io j) == lab (pe xs) (io i)
theorem sameP_refl (xs : List Int) (i : Nat) : sameP xs i i = true := by unfold sameP; rw [beq_self_eq_true]
theorem sameP_step {xs : List Int} {a i j : Nat} (hi : i < 64) (hj : j < 64) (h : nbI i j) (h1 : bitI xs i = true) (h2 : bitI xs j = true) (hs : sameP xs a i = true) : sameP xs a j = true := by
  unfold sameP at hs ⊢
  rw [beq_iff_eq] at hs ⊢
  exact (pe_join hi hj h h1 h2).symm.trans hs
/-- a flood that has come to rest is the piece. -/
theorem flood64 {xs : List Int} {seen : Nat → Bool} {a : Nat} (ha : a < 64) (hs : seen a = true) (hin : ∀ i, i < 64 → seen i = true → bitI xs i = true ∧ sameP xs a i = true)
    (hrest : ∀ i j, i < 64 → j < 64 → seen i = true → nbI i j → bitI xs j = true → seen j = true) (i : Nat) (hi : i < 64) : seen i = (bitI xs i && sameP xs a i) := by
  have hba := (hin a ha hs).1
  have q := flood (es := pe xs) (seen := fun v => cR xs v && decide (v < 100) && seen (oi v)) (a := io a)
    (by show (cR xs (io a) && decide (io a < 100) && seen (oi (io a))) = true; rw [cR_io xs ha, oi_io, hba, hs, decide_eq_true (io_lt ha).1]; rfl)
    (fun v hv => by
      simp only [Bool.and_eq_true, decide_eq_true_eq] at hv
      obtain ⟨l, e, b⟩ := cR_in hv.1.2 hv.1.1
      have := (hin _ l hv.2).2
      unfold sameP at this
      rw [beq_iff_eq, e] at this
      exact this)
    (fun e he => by
      obtain ⟨i, j, hi, hj, rfl, hn, b1, b2⟩ := pe_ends he
      show (cR xs (io i) && decide (io i < 100) && seen (oi (io i))) = (cR xs (io j) && decide (io j < 100) && seen (oi (io j)))
      rw [cR_io xs hi, cR_io xs hj, b1, b2, oi_io, oi_io, decide_eq_true (io_lt hi).1, decide_eq_true (io_lt hj).1, Bool.eq_iff_iff]
      simp only [Bool.true_and]
      exact ⟨fun h => hrest i j hi hj h hn b2, fun h => hrest j i hj hi h hn.symm b1⟩) (io i)
  cases hb : bitI xs i
  · cases hsi : seen i
    · rfl
    · rw [(hin i hi hsi).1] at hb; cases hb
  · have q2 : (cR xs (io i) && decide (io i < 100) && seen (oi (io i))) = sameP xs a i := q
    rw [cR_io xs hi, hb, oi_io, decide_eq_true (io_lt hi).1] at q2
    simpa using q2
/-- the cells of a piece, in the order of their indexes. -/
def pieceTo (xs : List Int) (a k : Nat) : List (Int × Int) := ((List.range k).filter fun j => bitI xs j && sameP xs a j).map fun j => (((j % 8 : Nat) : Int), ((j / 8 : Nat) : Int))
theorem pieceTo_yes {xs : List Int} {a k : Nat} (h : (bitI xs k && sameP xs a k) = true) : pieceTo xs a (k + 1) = pieceTo xs a k ++ [(((k % 8 : Nat) : Int), ((k / 8 : Nat) : Int))] := by
  unfold pieceTo; rw [List.range_succ, List.filter_append, List.map_append]; simp [h]
theorem pieceTo_no {xs : List Int} {a k : Nat} (h : (bitI xs k && sameP xs a k) = false) : pieceTo xs a (k + 1) = pieceTo xs a k := by
  unfold pieceTo; rw [List.range_succ, List.filter_append, List.map_append]; simp [h]
theorem pieceTo_length (xs : List Int) (a k : Nat) : (pieceTo xs a k).length ≤ k := by
  unfold pieceTo; rw [List.length_map]; exact Nat.le_trans (List.length_filter_le _ _) (by rw [List.length_range]; exact Nat.le_refl _)
/-- places that touch in a side or a corner. -/
def adj8 (u v : Nat) : Bool := decide (u / 10 ≤ v / 10 + 1) && decide (v / 10 ≤ u / 10 + 1) && decide (u % 10 ≤ v % 10 + 1) && decide (v % 10 ≤ u % 10 + 1)
theorem adj_touch : ∀ u, u < 100 → ∀ v, v < 100 → adj8 u v = true → 9 * min (min (u / 10) (v / 10)) 8 + min (min (u % 10) (v % 10)) 8 < 81 ∧ touch u (9 * min (min (u / 10) (v / 10)) 8 + min (min (u % 10) (v % 10)) 8) = true ∧ touch v (9 * min (min (u / 10) (v / 10)) 8 + min (min (u % 10) (v % 10)) 8) = true := by decide +kernel
theorem join8 {c : Nat → Bool} {u v : Nat} (hu : u < 100) (hv : v < 100) (h : adj8 u v = true) (h1 : c u = false) (h2 : c v = false) : lab (h8 c) u = lab (h8 c) v := by
  obtain ⟨a, b, d⟩ := adj_touch u hu v hv h
  exact corners a b d h1 h2
theorem n8_adj : ∀ k, k < 400 → ok8 k = true → adj8 (n8 k).1 (n8 k).2 = true ∧ adj8 (n8 k).2 (n8 k).1 = true := by decide +kernel
/-- a flood outside that has come to rest is the piece outside. -/
theorem flood100 {c : Nat → Bool} {seen : Nat → Bool} {a : Nat} (hs : seen a = true) (hin : ∀ v, seen v = true → lab (h8 c) v = lab (h8 c) a)
    (hrest : ∀ u v, u < 100 → v < 100 → seen u = true → adj8 u v = true → c u = false → c v = false → seen v = true) (v : Nat) : seen v = (lab (h8 c) v == lab (h8 c) a) :=
  flood hs hin (fun e he => by
    obtain ⟨k, hk, ho, rfl, c1, c2⟩ := h8_ends he
    have l := n8_lt k hk ho
    have t := n8_adj k hk ho
    rw [Bool.eq_iff_iff]
    exact ⟨fun h => hrest _ _ l.1 l.2 h t.1 c1 c2, fun h => hrest _ _ l.2 l.1 h t.2 c2 c1⟩) v
end Go.Proofs.Ytocjnplbjdpieaa.Bal
