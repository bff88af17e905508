/- IsPartial, the model's: it marks which cells are used. -/
import Derived.Test.YtpeolcgogidipaaDoorTilJ
import Derived.Laws.OwnMore
namespace Go.Proofs.YtpeolcgogidipaaDoor.Til
set_option linter.unusedVariables false
set_option linter.unusedSimpArgs false
open Go.RowKit Go.Proofs.YtpeolcgogidipaaDoor.Base Go.Proofs.YtpeolcgogidipaaDoor.Pure Go.Proofs.YtpeolcgogidipaaDoor.Cell Go.Proofs.YtpeolcgogidipaaDoor.CellF Go.Proofs.YtpeolcgogidipaaDoor.Cels Go.Proofs.YtpeolcgogidipaaDoor.Dom Go.Proofs.YtpeolcgogidipaaDoor.Dms Go.Joins
open Go.Proofs.YtpeolcgogidipaaDoor.Reg hiding Yes add_none RC rc_start

/-- which of the 64 cells are used. -/
def rowU (M : List Dm) : List Value := (List.range 64).map fun (j : Nat) => Value.bool (anyM M ((j % 8 : Nat) : Int) ((j / 8 : Nat) : Int))
theorem rowU_length (M : List Dm) : (rowU M).length = 64 := by unfold rowU; simp
theorem rowU_nil : rowU [] = List.replicate 64 (.bool false) := by unfold rowU anyM; rfl
theorem idx_nat {x y : Int} (h : Ok x y) : ∃ k : Nat, k < 64 ∧ indexN x y = (k : Int) ∧ ((k % 8 : Nat) : Int) = x ∧ ((k / 8 : Nat) : Int) = y := by
  have hi := index_of h
  obtain ⟨x0, x7, y0, y7⟩ := h
  exact ⟨(y * 8 + x).toNat, by omega, by rw [hi]; omega, by omega, by omega⟩
theorem rowU_at (M : List Dm) {k : Nat} (hk : k < 64) : (rowU M)[k]? = some (.bool (anyM M ((k % 8 : Nat) : Int) ((k / 8 : Nat) : Int))) := by unfold rowU; simp [List.getElem?_range hk]
theorem rowU_put (M : List Dm) (d : Dm) (hd : okM d = true) {k1 k2 : Nat} (h1 : k1 < 64) (h2 : k2 < 64) (e1 : ((k1 % 8 : Nat) : Int) = d.1) (e2 : ((k1 / 8 : Nat) : Int) = d.2.1) (e3 : ((k2 % 8 : Nat) : Int) = sx d.1 d.2.2) (e4 : ((k2 / 8 : Nat) : Int) = sy d.2.1 d.2.2) :
    ((rowU M).set k1 (.bool true)).set k2 (.bool true) = rowU (M ++ [d]) := by
  apply List.ext_getElem?
  intro j
  by_cases hj : j < 64
  · rw [rowU_at _ hj, anyM_snoc]
    have hcov : covM d ((j % 8 : Nat) : Int) ((j / 8 : Nat) : Int) = (decide (j = k1) || decide (j = k2)) := by
      unfold covM covP
      rw [hd, Bool.true_and, ← e3, ← e4, ← e1, ← e2, Bool.eq_iff_iff]
      simp only [Bool.or_eq_true, eqB_iff, decide_eq_true_eq]
      omega
    rw [hcov]
    by_cases c2 : j = k2
    · subst c2
      rw [List.getElem?_set_self (by rw [List.length_set, rowU_length]; exact hj)]
      simp
    · rw [List.getElem?_set_ne (by omega)]
      by_cases c1 : j = k1
      · subst c1
        rw [List.getElem?_set_self (by rw [rowU_length]; exact hj)]
        simp
      · rw [List.getElem?_set_ne (by omega), rowU_at _ hj]
        simp [c1, c2]
  · rw [List.getElem?_eq_none (by rw [List.length_set, List.length_set, rowU_length]; omega), List.getElem?_eq_none (by rw [rowU_length]; omega)]
/-- the domino before. -/
def prevB (M : List Dm) (d : Dm) : Bool := match M.getLast? with | none => true | some p => befM p d
theorem stepB_eq (xs : List Int) (M : List Dm) (d : Dm) : stepB xs M d = (prevB M d && ((hasB xs d.1 d.2.1 && !anyM M d.1 d.2.1) && (hasB xs (sx d.1 d.2.2) (sy d.2.1 d.2.2) && !anyM M (sx d.1 d.2.2) (sy d.2.1 d.2.2)))) := rfl
theorem prevB_0 {L : List Dm} {d : Dm} : prevB (L.take 0) d = true := rfl
theorem prevB_s {L : List Dm} {k : Nat} (hk : k < L.length) (h0 : 0 < k) (d : Dm) : prevB (L.take k) d = befM (L[k - 1]'(by omega)) d := by
  unfold prevB
  have : (L.take k).getLast? = some (L[k - 1]'(by omega)) := by
    rw [List.getLast?_eq_getElem?, List.length_take, Nat.min_eq_left (by omega), List.getElem?_take, if_pos (by omega)]
    exact List.getElem?_eq_getElem _
  rw [this]
/-- the model's state: the region's box, the marks. -/
def US (w : World) (v : Value) (M : List Dm) (W : World) : Prop := R1 w v W ∧ W.ownsRow (w.heap.size + 1) 4 1 (.slice (some ⟨w.heap.size + 1, 0, none⟩) 64 64) 64 (rowU M)
section
variable {w W W' : World} {v : Value} {M : List Dm}
theorem US.on (h : US w v M W) (hb : Below W.heap.size W W') : US w v M W' := ⟨h.1.on hb, Reg.own_below h.2 hb (Nat.le_refl _)⟩
theorem US.drew (h : US w v M W) : US w v M W.drew := ⟨h.1.drew, h.2⟩
theorem US.cell (h : US w v M W) {k : Nat} (hk : k < 64) : W.cell? ⟨w.heap.size + 1, k, none⟩ = some (.bool (anyM M ((k % 8 : Nat) : Int) ((k / 8 : Nat) : Int))) := (h.2.cellAt k (by omega)).trans (rowU_at M hk)
theorem US.froz (h : US w v M W) (k : Nat) : W.frozen? ⟨w.heap.size + 1, k, none⟩ = false := h.2.frozenAt k
theorem Rg.far {W : World} {p q i : Nat} {v u : Value} (h : Rg W q v) (hp : q ≠ p) : Rg (W.setCell ⟨p, i, none⟩ u) q v := (Below.heap_setCell W ⟨p, i, none⟩ u q hp).trans h
theorem R1.put (h : R1 w v W) (k : Nat) (u : Value) : R1 w v (W.setCell ⟨w.heap.size + 1, k, none⟩ u) := ⟨h.1.setCell (p := ⟨w.heap.size + 1, k, none⟩) (by show _ ≤ w.heap.size + 1; omega) _, h.2.far (by omega)⟩
end
/-- the model's state between the two marks. -/
def UT (w : World) (v : Value) (cs : List Value) (W : World) : Prop := R1 w v W ∧ W.ownsRow (w.heap.size + 1) 4 1 (.slice (some ⟨w.heap.size + 1, 0, none⟩) 64 64) 64 cs
theorem UT.on {w W W' : World} {v : Value} {cs : List Value} (h : UT w v cs W) (hb : Below W.heap.size W W') : UT w v cs W' := ⟨h.1.on hb, Reg.own_below h.2 hb (Nat.le_refl _)⟩
theorem UT.put {w W : World} {v : Value} {cs : List Value} (h : UT w v cs W) (k : Nat) (u : Value) : UT w v (cs.set k u) (W.setCell ⟨w.heap.size + 1, k, none⟩ u) := ⟨h.1.put k u, (h.2.stored k u).1⟩
theorem UT.cell {w W : World} {v : Value} {cs : List Value} (h : UT w v cs W) (hc : cs.length = 64) {k : Nat} (hk : k < 64) : ∃ u, W.cell? ⟨w.heap.size + 1, k, none⟩ = some u := ⟨cs[k]'(by omega), (h.2.cellAt k (by omega)).trans (List.getElem?_eq_getElem (by omega))⟩
theorem UT.froz {w W : World} {v : Value} {cs : List Value} (h : UT w v cs W) (k : Nat) : W.frozen? ⟨w.heap.size + 1, k, none⟩ = false := h.2.frozenAt k

theorem boolInfo : (Tryd.prog.info? 4).map (fun i => (i.zero, i.size, i.bytes)) = some (some (.bool false), 1, 1) := by kernel_rfl

end Go.Proofs.YtpeolcgogidipaaDoor.Til
