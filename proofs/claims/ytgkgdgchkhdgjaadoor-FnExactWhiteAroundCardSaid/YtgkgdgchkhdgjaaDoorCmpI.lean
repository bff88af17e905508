/- slices.Compact over a row of dominoes in order: the row is cut to those that differ from the one before. -/
import Derived.Test.YtgkgdgchkhdgjaaDoorCmpP
import Derived.Test.YtgkgdgchkhdgjaaDoorTilM
import Derived.Lib.SliceRun
import Derived.Deep.RegionHeld3
namespace Go.Proofs.YtgkgdgchkhdgjaaDoor.Cmp
set_option linter.unusedVariables false
set_option linter.unusedSimpArgs false
open Go.RowKit Go.Proofs.YtgkgdgchkhdgjaaDoor.Base Go.Proofs.YtgkgdgchkhdgjaaDoor.Cell Go.Proofs.YtgkgdgchkhdgjaaDoor.Dom Go.Proofs.YtgkgdgchkhdgjaaDoor.Dms Go.Proofs.YtgkgdgchkhdgjaaDoor.Til Go.Joins

set_option maxHeartbeats 1000000 in
theorem eqC_run {x y : Int} {b : Bool} {u v : Int} {c : Bool} (hne : ¬ (x = u ∧ y = v ∧ b = c)) (a : Act) (o : Oper) (t1 t2 : Operand) (w' : World)
    (ho : o.op = .binOp .eql 121 t1 t2 121) (h1 : a.eval t1 = .agg #[.int .i64 x, .int .i64 y, .bool b]) (h2 : a.eval t2 = .agg #[.int .i64 u, .int .i64 v, .bool c]) :
    (execOp a.eval o).run Tryd.prog w' = .ok (.value (.bool false)) w' := by
  unfold execOp
  rw [ho]
  simp only [h1, h2]
  by_cases hxu : x = u
  · subst hxu
    by_cases hyv : y = v
    · subst hyv
      cases b <;> cases c
      · exact absurd ⟨rfl, rfl, rfl⟩ hne
      · clear hne ho h1 h2; go_simp
      · clear hne ho h1 h2; go_simp
      · exact absurd ⟨rfl, rfl, rfl⟩ hne
    · clear hne ho h1 h2; go_simp
  · clear hne ho h1 h2; go_simp

set_option maxHeartbeats 1000000 in
theorem neC_run {x y : Int} {b : Bool} {u v : Int} {c : Bool} (hne : ¬ (x = u ∧ y = v ∧ b = c)) (a : Act) (o : Oper) (t1 t2 : Operand) (w' : World)
    (ho : o.op = .binOp .neq 121 t1 t2 121) (h1 : a.eval t1 = .agg #[.int .i64 x, .int .i64 y, .bool b]) (h2 : a.eval t2 = .agg #[.int .i64 u, .int .i64 v, .bool c]) :
    (execOp a.eval o).run Tryd.prog w' = .ok (.value (.bool true)) w' := by
  unfold execOp
  rw [ho]
  simp only [h1, h2]
  by_cases hxu : x = u
  · subst hxu
    by_cases hyv : y = v
    · subst hyv
      cases b <;> cases c
      · exact absurd ⟨rfl, rfl, rfl⟩ hne
      · clear hne ho h1 h2; go_simp
      · clear hne ho h1 h2; go_simp
      · exact absurd ⟨rfl, rfl, rfl⟩ hne
    · clear hne ho h1 h2; go_simp
  · clear hne ho h1 h2; go_simp

/-- a row of the call's own, cut. -/
theorem own_cut {w : World} {base e g n cap k : Nat} {xs : List Value} (h : w.ownsRow base e 3 (.slice (some ⟨g, 0, none⟩) n cap) n xs) (hk : k ≤ n) : w.ownsRow base e 3 (.slice (some ⟨g, 0, none⟩) k cap) k (xs.take (k * 3)) := by
  obtain ⟨h1, h2⟩ := h
  refine ⟨by rw [List.length_take, h1]; omega, ?_⟩
  rcases h2 with ⟨h2, _⟩ | ⟨g', cap', cur, hv, a, b, c, d, e1, f⟩
  · cases h2
  · injection hv with p1 _ p3
    injection p1 with p1
    injection p1 with p1
    subst p1; subst p3
    exact .inr ⟨g, cap, cur, rfl, a, b, by omega, d, e1, by rw [← f, List.take_take, Nat.min_eq_left (by omega)]⟩
theorem own_setCells {base e g k cap : Nat} {xs : List Value} : ∀ (vs : List Value) (o : Nat) (w : World), w.ownsRow base e 3 (.slice (some ⟨g, 0, none⟩) k cap) k xs → k * 3 ≤ o → (w.setCells g o vs).ownsRow base e 3 (.slice (some ⟨g, 0, none⟩) k cap) k xs
  | [], _, _, h, _ => h
  | v :: r, o, w, h, ho => by
    rw [World.setCells]
    refine own_setCells r (o + 1) _ ?_ (by omega)
    have := (h.stored o v).1
    rwa [List.set_eq_of_length_le (by rw [h.1]; omega)] at this
theorem grown_setCells {g : Nat} : ∀ (vs : List Value) (o : Nat) (w : World), w.grownBy (w.setCells g o vs) (some g)
  | [], _, w => ⟨rfl, rfl, rfl, Nat.le_refl _, fun _ _ _ => rfl⟩
  | v :: r, o, w => by
    rw [World.setCells]
    have h := grown_setCells (g := g) r (o + 1) (w.setCell ⟨g, o, none⟩ v)
    refine ⟨h.os, h.tape, h.output, by have := h.size; simpa [World.setCell] using this, fun k hk hne => ?_⟩
    rw [h.block k (by simpa [World.setCell] using hk) hne]
    exact Below.heap_setCell w ⟨g, o, none⟩ v k (by intro e; exact hne (by rw [e]))
theorem grown_trans {a b c : World} {g : Nat} (h : a.grownBy b (some g)) (k : b.grownBy c (some g)) : a.grownBy c (some g) :=
  ⟨k.os.trans h.os, k.tape.trans h.tape, k.output.trans h.output, Nat.le_trans h.size k.size, fun j hj hne => (k.block j (Nat.lt_of_lt_of_le hj h.size) hne).trans (h.block j hj hne)⟩
theorem zero_len (n : Nat) : (Builtin.zeroCells #[.int .i64 0, .int .i64 0, .bool false] n).toList.length = n * 3 := by simp [Builtin.zeroCells]
theorem zero_cell (n : Nat) : ∀ v ∈ (Builtin.zeroCells #[.int .i64 0, .int .i64 0, .bool false] n).toList, v.oneCell' = true := by
  intro v hv
  simp only [Builtin.zeroCells, Array.toList_map, Array.toList_range, List.mem_map, List.mem_range] at hv
  obtain ⟨i, hi, rfl⟩ := hv
  have h3 : i % 3 = 0 ∨ i % 3 = 1 ∨ i % 3 = 2 := by omega
  rcases h3 with h | h | h <;> (simp only [List.size_toArray, List.length_cons, List.length_nil, Nat.zero_add, Nat.reduceAdd, h]; rfl)
theorem run_clear (w : World) (ty : TypeId) (g o n c : Nat) (hn : 0 < n) (hc : ∀ j, j < n * 3 → (w.cell? ⟨g, o + j, none⟩).isSome = true) (hf : ∀ j, j < n * 3 → w.frozen? ⟨g, o + j, none⟩ = false) :
    (Builtin.clear_ #[119] ty #[.slice (some ⟨g, o, none⟩) n c]).run Tryd.prog w = .ok (.tuple #[]) (w.setCells g o (Builtin.zeroCells #[.int .i64 0, .int .i64 0, .bool false] n).toList) := by
  have hst := run_storeCells_cells (P := Tryd.prog) g o (Builtin.zeroCells #[.int .i64 0, .int .i64 0, .bool false] n).toList 0 w (by rw [zero_len]; simpa using hc) (by rw [zero_len]; simpa using hf) (zero_cell n)
  simp only [Nat.add_zero] at hst
  obtain ⟨m, rfl⟩ : ∃ m, n = m + 1 := ⟨n - 1, by omega⟩
  simp [Builtin.clear_, run_underlying Tryd.underlying119, Tryd.zeroValue121, Value.cells, hst]

/-- a domino of a row of the call's own. -/
theorem own_at {w : World} {base g n cap : Nat} {R : List Dm} (h : w.ownsRow base 121 3 (.slice (some ⟨g, 0, none⟩) n cap) n (rowM R)) {j : Nat} {d : Dm} (hd : R[j]? = some d) (q : Nat) (hq : q = j * 3) :
    w.cell? ⟨g, q, none⟩ = some (.int .i64 d.1) ∧ w.cell? ⟨g, q + 1, none⟩ = some (.int .i64 d.2.1) ∧ w.cell? ⟨g, q + 2, none⟩ = some (.bool d.2.2) := by
  subst hq
  obtain ⟨h1, h2, h3⟩ := rowM_at R j d hd
  have hl := h.1
  have hlen := rowM_length R
  have hj := (List.getElem?_eq_some_iff.1 hd).1
  exact ⟨(h.cellAt _ (by omega)).trans h1, (h.cellAt _ (by omega)).trans h2, (h.cellAt _ (by omega)).trans h3⟩
theorem own_put {w : World} {base g n cap : Nat} {R : List Dm} (h : w.ownsRow base 121 3 (.slice (some ⟨g, 0, none⟩) n cap) n (rowM R)) {C D : List Dm} {p q : Dm} (hR : R = C ++ p :: D) :
    (((w.setCell ⟨g, C.length * 3, none⟩ (.int .i64 q.1)).setCell ⟨g, C.length * 3 + 1, none⟩ (.int .i64 q.2.1)).setCell ⟨g, C.length * 3 + 2, none⟩ (.bool q.2.2)).ownsRow base 121 3 (.slice (some ⟨g, 0, none⟩) n cap) n (rowM (C ++ q :: D)) := by
  subst hR
  obtain ⟨h, _⟩ := h.stored (C.length * 3) (.int .i64 q.1)
  obtain ⟨h, _⟩ := h.stored (C.length * 3 + 1) (.int .i64 q.2.1)
  obtain ⟨h, _⟩ := h.stored (C.length * 3 + 2) (.bool q.2.2)
  rwa [rowM_put C p q D C.length rfl] at h
theorem grown_put {w : World} {g : Nat} (o : Nat) (v : Value) : w.grownBy (w.setCell ⟨g, o, none⟩ v) (some g) :=
  ⟨rfl, rfl, rfl, by simp [World.setCell], fun k hk hne => Below.heap_setCell w ⟨g, o, none⟩ v k (by intro e; exact hne (by rw [e]))⟩
theorem grown_drew {w W : World} {g : Nat} (h : w.grownBy W (some g)) : w.grownBy W.drew (some g) := ⟨h.os, h.tape, h.output, h.size, h.block⟩

end Go.Proofs.YtgkgdgchkhdgjaaDoor.Cmp
