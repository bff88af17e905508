/- DomG, DomH, DomO, DomL in one text. -/
import Derived.Test.YtmaghekcpopepaaDoorDomF
import Derived.Deep.CutRange

/- Dominoes: the domino over two cells, overlaps, and the order of dominoes: the program's functions and the model's, of every argument. -/
namespace Go.Proofs.YtmaghekcpopepaaDoor.Dom
set_option linter.unusedVariables false
set_option linter.unusedSimpArgs false
open Go.RowKit Go.Proofs.YtmaghekcpopepaaDoor.Base Go.Proofs.YtmaghekcpopepaaDoor.Cell Go.Proofs.YtmaghekcpopepaaDoor.CellF Go.Proofs.YtmaghekcpopepaaDoor.CellN Go.Joins

/-- an ending with one domino. -/
def Do (x y : Int) (b : Bool) (w : World) (e : Ending) (w' : World) : Prop := e = .returned (.agg #[.int .i64 x, .int .i64 y, .bool b]) ∧ Below w.heap.size w w'
/-- an ending with one domino and a bool. -/
def DoB (x y : Int) (b r : Bool) (w : World) (e : Ending) (w' : World) : Prop := e = .returned (.tuple #[.agg #[.int .i64 x, .int .i64 y, .bool b], .bool r]) ∧ Below w.heap.size w w'
theorem mkDoB {a c x y : Int} {b d r q : Bool} {w W : World} (h1 : a = x) (h2 : c = y) (h3 : d = b) (h4 : q = r) (hb : Below w.heap.size w W) : DoB x y b r w (.returned (.tuple #[.agg #[.int .i64 a, .int .i64 c, .bool d], .bool q])) W := ⟨by rw [h1, h2, h3, h4], hb⟩

/-- a domino's box and a cell's. -/
theorem bx32 {T : TypeId} (u v : Int) (c : Bool) (p q : Int) (w w1 : World) (h : Below ((w.alloc (.cells #[.int .i64 u, .int .i64 v, .bool c] T)).alloc (.cells #[.int .i64 p, .int .i64 q] 68)).heap.size ((w.alloc (.cells #[.int .i64 u, .int .i64 v, .bool c] T)).alloc (.cells #[.int .i64 p, .int .i64 q] 68)) w1) :
    Below w.heap.size w w1 ∧ At3 T w1 w.heap.size u v c ∧ At2 w1 (w.heap.size + 1) p q := by
  have e0 : (w.alloc (.cells #[.int .i64 u, .int .i64 v, .bool c] T)).heap.size = w.heap.size + 1 := by simp
  have k1 := At2.new (w.alloc (.cells #[.int .i64 u, .int .i64 v, .bool c] T)) p q
  rw [e0] at k1
  exact ⟨(below_alloc2 w _ _).trans (h.mono (by simp; omega)), ((At3.new T w u v c).on (below_alloc1 _ _)).on h, k1.on h⟩
/-- two dominoes' boxes. -/
theorem bx33 {T T' : TypeId} (x y : Int) (b : Bool) (u v : Int) (c : Bool) (w w1 : World) (h : Below ((w.alloc (.cells #[.int .i64 x, .int .i64 y, .bool b] T)).alloc (.cells #[.int .i64 u, .int .i64 v, .bool c] T')).heap.size ((w.alloc (.cells #[.int .i64 x, .int .i64 y, .bool b] T)).alloc (.cells #[.int .i64 u, .int .i64 v, .bool c] T')) w1) :
    Below w.heap.size w w1 ∧ At3 T w1 w.heap.size x y b ∧ At3 T' w1 (w.heap.size + 1) u v c := by
  have e0 : (w.alloc (.cells #[.int .i64 x, .int .i64 y, .bool b] T)).heap.size = w.heap.size + 1 := by simp
  have k1 := At3.new T' (w.alloc (.cells #[.int .i64 x, .int .i64 y, .bool b] T)) u v c
  rw [e0] at k1
  exact ⟨(below_alloc2 w _ _).trans (h.mono (by simp; omega)), ((At3.new T w x y b).on (below_alloc1 _ _)).on h, k1.on h⟩

/-- two pairs of cells have a cell in common. -/
def ovP (x y m n u v s t : Int) : Bool := eqB x y u v || eqB x y s t || (eqB m n u v || eqB m n s t)
/-- two dominoes overlap. -/
def ovB (x y : Int) (b : Bool) (u v : Int) (c : Bool) : Bool := domB x y b && domB u v c && ovP x y (sx x b) (sy y b) u v (sx u c) (sy v c)
theorem ovP_iff {x y m n u v s t : Int} : ovP x y m n u v s t = true ↔ (x = u ∧ y = v) ∨ (x = s ∧ y = t) ∨ (m = u ∧ n = v) ∨ (m = s ∧ n = t) := by
  unfold ovP
  simp only [Bool.or_eq_true, eqB_iff]
  constructor
  · rintro ((h | h) | (h | h))
    · exact .inl h
    · exact .inr (.inl h)
    · exact .inr (.inr (.inl h))
    · exact .inr (.inr (.inr h))
  · rintro (h | h | h | h)
    · exact .inl (.inl h)
    · exact .inl (.inr h)
    · exact .inr (.inl h)
    · exact .inr (.inr h)

end Go.Proofs.YtmaghekcpopepaaDoor.Dom

/- Dominoes: the order of two dominoes, and the domino over two cells: the program's functions and the model's, of every argument. -/
namespace Go.Proofs.YtmaghekcpopepaaDoor.Dom
set_option linter.unusedVariables false
set_option linter.unusedSimpArgs false
open Go.RowKit Go.Proofs.YtmaghekcpopepaaDoor.Base Go.Proofs.YtmaghekcpopepaaDoor.Cell Go.Proofs.YtmaghekcpopepaaDoor.CellF Go.Proofs.YtmaghekcpopepaaDoor.CellN Go.Joins

/-- the one of two valid dominoes comes first. -/
def befP (x y : Int) (b : Bool) (u v : Int) (c : Bool) : Bool := decide (y * 8 + x < v * 8 + u ∨ (y * 8 + x = v * 8 + u ∧ b = false ∧ c = true))
theorem befP_iff {x y : Int} {b : Bool} {u v : Int} {c : Bool} : befP x y b u v c = true ↔ (y * 8 + x < v * 8 + u ∨ (y * 8 + x = v * 8 + u ∧ b = false ∧ c = true)) := by unfold befP; simp
def befB (x y : Int) (b : Bool) (u v : Int) (c : Bool) : Bool := domB x y b && domB u v c && befP x y b u v c
theorem dom_ok {x y : Int} {b : Bool} (h : domB x y b = true) : Ok x y := by
  unfold domB at h
  simp only [Bool.and_eq_true] at h
  exact okB_iff.1 h.1
theorem index_of {x y : Int} (h : Ok x y) : indexN x y = y * 8 + x := by unfold indexN; simp [h]

set_option maxHeartbeats 1000000 in
theorem sIsBefore (x y : Int) (b : Bool) (u v : Int) (c : Bool) (w : World) :
    Calls Tryd.prog 67 #[.agg #[.int .i64 x, .int .i64 y, .bool b], .agg #[.int .i64 u, .int .i64 v, .bool c]] w (Bol (befB x y b u v c) w) := by
  have HO1 := Lib.hid (fun W => sDominoOk x y b W)
  have HO2 := Lib.hid (fun W => sDominoOk u v c W)
  have HB := Lib.hid (show befB x y b u v c = (domB x y b && domB u v c && befP x y b u v c) from rfl)
  have HK1 := Lib.hid (fun (h : domB x y b = true) => dom_ok h)
  have HK2 := Lib.hid (fun (h : domB u v c = true) => dom_ok h)
  generalize befB x y b u v c = r at HB ⊢
  generalize domB x y b = p at HO1 HB HK1
  generalize domB u v c = q at HO2 HB HK2
  go_enter Tryd.func67, Tryd.ntmps67
  go_wp2_with fail
  refine (HO1.out _).mono ?_
  rintro e w1 ⟨rfl, hb1⟩
  obtain ⟨hb, K1, K2⟩ := bx33 x y b u v c w w1 hb1
  have c0 := K1.c0
  have c1 := K1.c1
  have c2 := K1.c2
  have d0 := K2.c0
  have d1 := K2.c1
  have d2 := K2.c2
  clear hb1 HO1
  cases p with
  | false =>
    go_wp2
    go_ret
    exact mkBol (by rw [HB.out]; rfl) hb
  | true =>
    go_wp2_with fail
    refine (HO2.out _).mono ?_
    rintro e w2 ⟨rfl, hb2⟩
    have hb' := hb.trans (hb2.mono hb.size)
    have K1 := K1.on hb2
    have K2 := K2.on hb2
    clear hb hb2 c0 c1 c2 d0 d1 d2 HO2
    have c0 := K1.c0
    have c1 := K1.c1
    have c2 := K1.c2
    have d0 := K2.c0
    have d1 := K2.c1
    have d2 := K2.c2
    clear K1 K2
    cases q with
    | false =>
      go_wp2
      go_ret
      exact mkBol (by rw [HB.out]; rfl) hb'
    | true =>
      obtain ⟨x0, x7, y0, y7⟩ := HK1.out (by trivial)
      obtain ⟨u0, u7, v0, v7⟩ := HK2.out (by trivial)
      have HH := Lib.hid (fun z (h : z = true ↔ (y * 8 + x < v * 8 + u ∨ (y * 8 + x = v * 8 + u ∧ b = false ∧ c = true))) => mkBol (v := z) (b := r) (by rw [Bool.eq_iff_iff, h, HB.out, Bool.true_and, Bool.true_and, befP_iff]) hb')
      clear HB HK1 HK2 hb'
      go_wp2
      all_goals
        go_ret
        refine HH.out _ ?_
        cases b <;> cases c <;> first | contradiction | (simp; done) | (simp; omega) | omega

end Go.Proofs.YtmaghekcpopepaaDoor.Dom

/- Dominoes: the domino over two cells, the program's function and the model's; the laws' own copies and comparisons of dominoes. -/
namespace Go.Proofs.YtmaghekcpopepaaDoor.Dom
set_option linter.unusedVariables false
set_option linter.unusedSimpArgs false
open Go.RowKit Go.Proofs.YtmaghekcpopepaaDoor.Base Go.Proofs.YtmaghekcpopepaaDoor.Cell Go.Proofs.YtmaghekcpopepaaDoor.CellF Go.Proofs.YtmaghekcpopepaaDoor.CellN Go.Joins

/-- the smaller of two numbers. -/
def mn (a b : Int) : Int := if b < a then b else a
theorem nb_dom {x y u v : Int} (h : nbB x y u v = true) : Ok x y ∧ Ok u v ∧ ((indexN u v < indexN x y ∧ mn x u = u ∧ mn y v = v) ∨ (¬ indexN u v < indexN x y ∧ mn x u = x ∧ mn y v = y)) := by
  obtain ⟨h1, h2, h3⟩ := nbB_iff.1 h
  refine ⟨h1, h2, ?_⟩
  rw [index_of h1, index_of h2]
  obtain ⟨x0, x7, y0, y7⟩ := h1
  obtain ⟨u0, u7, v0, v7⟩ := h2
  unfold mn
  rcases h3 with ⟨rfl, rfl | rfl⟩ | ⟨rfl, rfl | rfl⟩
  · left; refine ⟨by omega, by simp, by rw [if_pos (by omega)]⟩
  · right; refine ⟨by omega, by simp, by rw [if_neg (by omega)]⟩
  · left; refine ⟨by omega, by rw [if_pos (by omega)], by simp⟩
  · right; refine ⟨by omega, by rw [if_neg (by omega)], by simp⟩

/-- two cells' boxes and the domino that a function returns. -/
def Ov (w : World) (x y u v : Int) (p q : Int) (b : Bool) (W : World) : Prop :=
  Below w.heap.size w W ∧ At2 W w.heap.size x y ∧ At2 W (w.heap.size + 1) u v ∧ At3 37 W (w.heap.size + 1 + 1) p q b
theorem ov_start (x y u v : Int) (w : World) : Ov w x y u v 0 0 false (((w.alloc (.cells #[.int .i64 x, .int .i64 y] 68)).alloc (.cells #[.int .i64 u, .int .i64 v] 68)).alloc (.cells #[.int .i64 0, .int .i64 0, .bool false] 37)) := by
  obtain ⟨k1, k2, k3⟩ := at2_two w x y u v
  have e2 : ((w.alloc (.cells #[.int .i64 x, .int .i64 y] 68)).alloc (.cells #[.int .i64 u, .int .i64 v] 68)).heap.size = w.heap.size + 1 + 1 := by simp
  generalize (w.alloc (.cells #[.int .i64 x, .int .i64 y] 68)).alloc (.cells #[.int .i64 u, .int .i64 v] 68) = W at k1 k2 k3 e2 ⊢
  have k4 := At3.new 37 W 0 0 false
  rw [e2] at k4
  exact ⟨k3.trans ((below_alloc1 W _).mono k3.size), k1.on (below_alloc1 _ _), k2.on (below_alloc1 _ _), k4⟩
theorem At3.f0 {T : TypeId} {W : World} {q : Nat} {x y : Int} {b : Bool} (h : At3 T W q x y b) : W.frozen? ⟨q, 0, none⟩ = false := by have h' := h; unfold At3 at h'; simp [World.frozen?, h']
theorem At3.f1 {T : TypeId} {W : World} {q : Nat} {x y : Int} {b : Bool} (h : At3 T W q x y b) : W.frozen? ⟨q, 1, none⟩ = false := by have h' := h; unfold At3 at h'; simp [World.frozen?, h']
theorem At3.f2 {T : TypeId} {W : World} {q : Nat} {x y : Int} {b : Bool} (h : At3 T W q x y b) : W.frozen? ⟨q, 2, none⟩ = false := by have h' := h; unfold At3 at h'; simp [World.frozen?, h']
theorem At3.put {T : TypeId} {W : World} {q : Nat} {x y a c : Int} {b d : Bool} (h : At3 T W q x y b) : At3 T (((W.setCell ⟨q, 0, none⟩ (.int .i64 a)).setCell ⟨q, 1, none⟩ (.int .i64 c)).setCell ⟨q, 2, none⟩ (.bool d)) q a c d := by
  have h' := h
  unfold At3 at h' ⊢
  simp [World.setCell, Array.getElem?_modify, h']
section
variable {w W W' : World} {x y u v p q : Int} {b : Bool}
theorem Ov.drew (h : Ov w x y u v p q b W) : Ov w x y u v p q b W.drew := ⟨h.1.drew, h.2⟩
theorem Ov.on (h : Ov w x y u v p q b W) (hb : Below W.heap.size W W') : Ov w x y u v p q b W' := ⟨h.1.trans (hb.mono h.1.size), h.2.1.on hb, h.2.2.1.on hb, h.2.2.2.on hb⟩
theorem Ov.put (h : Ov w x y u v p q b W) (a c : Int) (d : Bool) : Ov w x y u v a c d (((W.setCell ⟨w.heap.size + 1 + 1, 0, none⟩ (.int .i64 a)).setCell ⟨w.heap.size + 1 + 1, 1, none⟩ (.int .i64 c)).setCell ⟨w.heap.size + 1 + 1, 2, none⟩ (.bool d)) :=
  ⟨((h.1.setCell (p := ⟨w.heap.size + 1 + 1, 0, none⟩) (by show w.heap.size ≤ w.heap.size + 1 + 1; omega) _).setCell (p := ⟨w.heap.size + 1 + 1, 1, none⟩) (by show w.heap.size ≤ w.heap.size + 1 + 1; omega) _).setCell (p := ⟨w.heap.size + 1 + 1, 2, none⟩) (by show w.heap.size ≤ w.heap.size + 1 + 1; omega) _, (h.2.1.far2 (by omega)).far (by omega), (h.2.2.1.far2 (by omega)).far (by omega), h.2.2.2.put⟩
/-- a box beyond them is written. -/
theorem Ov.putFar (h : Ov w x y u v p q b W) {k : Nat} (hk : w.heap.size + 3 ≤ k) (a c : Int) : Ov w x y u v p q b ((W.setCell ⟨k, 0, none⟩ (.int .i64 a)).setCell ⟨k, 1, none⟩ (.int .i64 c)) :=
  ⟨(h.1.setCell (p := ⟨k, 0, none⟩) (by show w.heap.size ≤ k; omega) _).setCell (p := ⟨k, 1, none⟩) (by show w.heap.size ≤ k; omega) _, h.2.1.far2 (by omega), h.2.2.1.far2 (by omega), (h.2.2.2.far (by omega)).far (by omega)⟩
end

end Go.Proofs.YtmaghekcpopepaaDoor.Dom

/- The laws' own copies and comparisons of dominoes; the laws of one domino: FnExactDominoOk and FnExactCellsUnder return true of every argument. -/
namespace Go.Proofs.YtmaghekcpopepaaDoor.Dom
set_option linter.unusedVariables false
set_option linter.unusedSimpArgs false
open Go.RowKit Go.Proofs.YtmaghekcpopepaaDoor.Base Go.Proofs.YtmaghekcpopepaaDoor.Cell Go.Proofs.YtmaghekcpopepaaDoor.CellF Go.Proofs.YtmaghekcpopepaaDoor.CellN Go.Joins

/-- the law says yes, and makes memory at most. -/
def Yes (w : World) (e : Ending) (w' : World) : Prop := e = .returned (.bool true) ∧ Below w.heap.size w w'

set_option maxHeartbeats 400000 in
theorem toDomino (x y : Int) (b : Bool) (w : World) :
    Calls Tryd.prog 53 #[.agg #[.int .i64 x, .int .i64 y, .bool b]] w (Do x y b w) := by
  go_enter Tryd.func53, Tryd.ntmps53
  go_wp2
  exact bodyPost_ret (v := .agg #[.int .i64 x, .int .i64 y, .bool b]) (by simp [results, Tryd.results53, go_sem]) rfl ⟨rfl, below_alloc3 _ _ _ _⟩

/-- two dominoes are the same, as a bool. -/
def eqD (x y : Int) (b : Bool) (u v : Int) (c : Bool) : Bool := decide (x = u ∧ y = v ∧ b = c)
theorem eqD_iff {x y : Int} {b : Bool} {u v : Int} {c : Bool} : eqD x y b u v c = true ↔ x = u ∧ y = v ∧ b = c := by unfold eqD; simp

set_option maxHeartbeats 400000 in
theorem eqDominoSame (x y : Int) (b : Bool) (w : World) :
    Calls Tryd.prog 51 #[.agg #[.int .i64 x, .int .i64 y, .bool b], .agg #[.int .i64 x, .int .i64 y, .bool b]] w (Bol true w) := by
  have e1 : (x != x) = false := by simp
  have e2 : (y != y) = false := by simp
  have e3 : (b != b) = false := by simp
  go_enter Tryd.func51, Tryd.ntmps51
  go_wp2
  go_ret
  exact mkBol rfl (below_alloc2 _ _ _)
end Go.Proofs.YtmaghekcpopepaaDoor.Dom
