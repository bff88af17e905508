/- The law FnExactDominoOver returns true of every two cells. -/
import Derived.Test.YtgoljloklhencaaDomM
namespace Go.Proofs.Ytgoljloklhencaa.Dom
set_option linter.unusedVariables false
set_option linter.unusedSimpArgs false
open Go.RowKit Go.Proofs.Ytgoljloklhencaa.Base Go.Proofs.Ytgoljloklhencaa.Cell Go.Proofs.Ytgoljloklhencaa.CellF Go.Proofs.Ytgoljloklhencaa.CellN Go.Joins

/-- a law's cell lies in block q. -/
def AtL (W : World) (q : Nat) (x y : Int) : Prop := W.heap[q]? = some (.cells #[.int .i64 x, .int .i64 y] 33)
theorem AtL.on {W W' : World} {q : Nat} {x y : Int} (h : AtL W q x y) (hb : Below W.heap.size W W') : AtL W' q x y := (hb.block q (Array.getElem?_eq_some_iff.1 h).1).trans h
theorem AtL.c0 {W : World} {q : Nat} {x y : Int} (h : AtL W q x y) : W.cell? ⟨q, 0, none⟩ = some (.int .i64 x) := (cell_of_row _ _ 0 _ _ _ h).trans rfl
theorem AtL.c1 {W : World} {q : Nat} {x y : Int} (h : AtL W q x y) : W.cell? ⟨q, 1, none⟩ = some (.int .i64 y) := (cell_of_row _ _ 1 _ _ _ h).trans rfl
theorem AtL.lt {W : World} {q : Nat} {x y : Int} (h : AtL W q x y) : q < W.heap.size := (Array.getElem?_eq_some_iff.1 h).1
theorem AtL.far {W : World} {p q i : Nat} {x y : Int} {v : Value} (h : AtL W q x y) (hp : q ≠ p) : AtL (W.setCell ⟨p, i, none⟩ v) q x y := (Below.heap_setCell W ⟨p, i, none⟩ v q hp).trans h
/-- two cells' boxes, in a world behind their making. -/
def TwoC (w : World) (x y u v : Int) (W : World) : Prop := Below w.heap.size w W ∧ AtL W w.heap.size x y ∧ AtL W (w.heap.size + 1) u v
theorem twoC_start (x y u v : Int) (w : World) : TwoC w x y u v ((w.alloc (.cells #[.int .i64 x, .int .i64 y] 33)).alloc (.cells #[.int .i64 u, .int .i64 v] 33)) := by
  have e0 : (w.alloc (.cells #[.int .i64 x, .int .i64 y] 33)).heap.size = w.heap.size + 1 := by simp
  have k1 : AtL ((w.alloc (.cells #[.int .i64 x, .int .i64 y] 33)).alloc (.cells #[.int .i64 u, .int .i64 v] 33)) (w.alloc (.cells #[.int .i64 x, .int .i64 y] 33)).heap.size u v := heap_alloc_new _ _
  rw [e0] at k1
  have k0 : AtL (w.alloc (.cells #[.int .i64 x, .int .i64 y] 33)) w.heap.size x y := heap_alloc_new _ _
  exact ⟨below_alloc2 w _ _, k0.on (below_alloc1 _ _), k1⟩
section
variable {w W W' : World} {x y u v : Int}
theorem TwoC.drew (h : TwoC w x y u v W) : TwoC w x y u v W.drew := ⟨h.1.drew, h.2⟩
theorem TwoC.on (h : TwoC w x y u v W) (hb : Below W.heap.size W W') : TwoC w x y u v W' := ⟨h.1.trans (hb.mono h.1.size), h.2.1.on hb, h.2.2.on hb⟩
theorem TwoC.alloc (h : TwoC w x y u v W) (o : Obj) : TwoC w x y u v (W.alloc o) := h.on (below_alloc1 W o)
theorem TwoC.put {p : Nat} (h : TwoC w x y u v W) (hp : w.heap.size + 1 < p) (a c : Int) (d : Bool) : TwoC w x y u v (((W.setCell ⟨p, 0, none⟩ (.int .i64 a)).setCell ⟨p, 1, none⟩ (.int .i64 c)).setCell ⟨p, 2, none⟩ (.bool d)) :=
  ⟨((h.1.setCell (p := ⟨p, 0, none⟩) (by show w.heap.size ≤ p; omega) _).setCell (p := ⟨p, 1, none⟩) (by show w.heap.size ≤ p; omega) _).setCell (p := ⟨p, 2, none⟩) (by show w.heap.size ≤ p; omega) _,
   ((h.2.1.far (by omega)).far (by omega)).far (by omega), ((h.2.2.far (by omega)).far (by omega)).far (by omega)⟩
end
theorem wp_of_rest1 {P : Program} {c : Code} {Q : Exit → Act → World → Prop} {a : Act} {w : World} (F : Nat → Act) (Rel : World → Nat → Prop)
    (h : ∀ Q : Exit → Act → World → Prop, (∀ W p, Rel W p → Q .normal (F p) W) → c.wp P Q a w) (k : ∀ W p, Rel W p → Q .normal (F p) W) : c.wp P Q a w := h Q k

set_option maxHeartbeats 2000000 in
theorem lawDominoOver (x y u v : Int) (w : World) :
    Calls Try.prog 5 #[.agg #[.int .i64 x, .int .i64 y], .agg #[.int .i64 u, .int .i64 v]] w (Yes w) := by
  obtain ⟨m, n, b, r, HI, HS⟩ : ∃ m n b r, (Hid (∀ W, Calls Try.prog 16 #[.agg #[.int .i64 x, .int .i64 y], .agg #[.int .i64 u, .int .i64 v]] W (DoB m n b r W))) ∧ (Hid (∀ W, Calls Try.prog 14 #[.agg #[.int .i64 x, .int .i64 y], .agg #[.int .i64 u, .int .i64 v]] W (DoB m n b r W))) := by
    cases hd : nbB x y u v with
    | true => exact ⟨_, _, _, _, Lib.hid (fun W => iDominoOver_ok x y u v hd W), Lib.hid (fun W => sDominoOver_ok x y u v hd W)⟩
    | false => exact ⟨_, _, _, _, Lib.hid (fun W => iDominoOver_no x y u v hd W), Lib.hid (fun W => sDominoOver_no x y u v hd W)⟩
  have T0 := Lib.hid (twoC_start x y u v w)
  have hq : (r != r) = false := by simp
  go_enter Try.func5, Try.ntmps5
  go_upto_region 1 with fail
  have T1 := T0.out
  clear T0
  generalize (w.alloc (.cells #[.int .i64 x, .int .i64 y] 33)).alloc (.cells #[.int .i64 u, .int .i64 v] 33) = W at T1 ⊢
  refine' wp_of_rest1 _ (fun W p => TwoC w x y u v W ∧ At3 25 W p m n b ∧ w.heap.size + 1 < p) ?_ ?_
  rotate_left
  · intro Q R
    have R := Lib.hid R
    have T1 := T1.drew
    refine wp_region_noPanic ?_
    refine wp_region_held_drew (S := (fun w' => w'.cell? ⟨w.heap.size, 0, none⟩ = some (.int .i64 x) ∧ w'.cell? ⟨w.heap.size, 1, none⟩ = some (.int .i64 y) ∧ w'.cell? ⟨w.heap.size + 1, 0, none⟩ = some (.int .i64 u) ∧ w'.cell? ⟨w.heap.size + 1, 1, none⟩ = some (.int .i64 v))) (by kernel_rfl) (⟨T1.2.1.c0, T1.2.1.c1, T1.2.2.c0, T1.2.2.c1⟩) (fun hHeld => ?_)
    generalize World.drew _ = WR at T1 hHeld ⊢
    refine wpAnyH_take (i := 0) (v := ?_) rfl (by kernel_rfl) (by kernel_rfl) (by kernel_rfl) (fun _ _ _ h => h) (Or.inl ⟨by rfl, ?_⟩) (by assumption) ?_
    rotate_left
    · (intro w' hS; (try dsimp only at hS); go_simp; try with_reducible rfl)
    try simp only [Act.put, List.getElem_toArray, List.getElem_cons_succ, List.getElem_cons_zero, List.setIfInBounds_toArray, List.set_cons_zero, List.set_cons_succ]
    refine wpAnyH_take (i := 2) (v := ?_) rfl (by kernel_rfl) (by kernel_rfl) (by kernel_rfl) (fun _ _ _ h => h) (Or.inl ⟨by rfl, ?_⟩) (by assumption) ?_
    rotate_left
    · (intro w' hS; (try dsimp only at hS); go_simp; try with_reducible rfl)
    try simp only [Act.put, List.getElem_toArray, List.getElem_cons_succ, List.getElem_cons_zero, List.setIfInBounds_toArray, List.set_cons_zero, List.set_cons_succ]
    clear hHeld
    refine wpAnyH_ready (rs := [1, 8]) (by kernel_rfl) (by simp) ?_
    refine AllReadyH.cons rfl (fun K hK => ?_) (AllReadyH.cons rfl (fun K hK => ?_) AllReadyH.nil)
    ·
      go_simp
      refine (toCell _ _ _).mono ?_
      rintro e wx ⟨rfl, hbx⟩
      have T1 := T1.on hbx
      clear hbx
      go_wp2_with fail
      refine hK.out _ _ (⟨T1.2.1.c0, T1.2.1.c1, T1.2.2.c0, T1.2.2.c1⟩) (fun hHeld => ?_)
      clear hK K
      try simp only [Act.put, List.getElem_toArray, List.getElem_cons_succ, List.getElem_cons_zero, List.setIfInBounds_toArray, List.set_cons_zero, List.set_cons_succ]
      refine wpAnyH_ready (rs := [3, 8]) (by kernel_rfl) (by simp) ?_
      refine AllReadyH.cons rfl (fun K hK => ?_) (AllReadyH.cons rfl (fun K hK => ?_) AllReadyH.nil)
      ·
        go_simp
        refine (toCell _ _ _).mono ?_
        rintro e wx ⟨rfl, hbx⟩
        have T1 := T1.on hbx
        clear hbx
        go_wp2_with fail
        refine hK.out _ _ (⟨T1.2.1.c0, T1.2.1.c1, T1.2.2.c0, T1.2.2.c1⟩) (fun hHeld => ?_)
        clear hK K
        try simp only [Act.put, List.getElem_toArray, List.getElem_cons_succ, List.getElem_cons_zero, List.setIfInBounds_toArray, List.set_cons_zero, List.set_cons_succ]
        refine wpAnyH_ready (rs := [4, 8]) (by kernel_rfl) (by simp) ?_
        refine AllReadyH.cons rfl (fun K hK => ?_) (AllReadyH.cons rfl (fun K hK => ?_) AllReadyH.nil)
        ·
          go_simp
          refine (HS.out _).mono ?_
          rintro e wx ⟨rfl, hbx⟩
          have T1 := T1.on hbx
          clear hbx
          go_wp2_with fail
          refine hK.out _ _ (⟨T1.2.1.c0, T1.2.1.c1, T1.2.2.c0, T1.2.2.c1⟩) (fun hHeld => ?_)
          clear hK K
          try simp only [Act.put, List.getElem_toArray, List.getElem_cons_succ, List.getElem_cons_zero, List.setIfInBounds_toArray, List.set_cons_zero, List.set_cons_succ]
          refine wpAnyH_take (i := 5) (v := ?_) rfl (by kernel_rfl) (by kernel_rfl) (by kernel_rfl) (fun _ _ _ h => h) (Or.inl ⟨by rfl, ?_⟩) (by assumption) ?_
          rotate_left
          · (intro w' hS; (try dsimp only at hS); go_simp; try with_reducible rfl)
          try simp only [Act.put, List.getElem_toArray, List.getElem_cons_succ, List.getElem_cons_zero, List.setIfInBounds_toArray, List.set_cons_zero, List.set_cons_succ]
          refine wpAnyH_take (i := 6) (v := ?_) rfl (by kernel_rfl) (by kernel_rfl) (by kernel_rfl) (fun _ _ _ h => h) (Or.inl ⟨by rfl, ?_⟩) (by assumption) ?_
          rotate_left
          · (intro w' hS; (try dsimp only at hS); go_simp; try with_reducible rfl)
          try simp only [Act.put, List.getElem_toArray, List.getElem_cons_succ, List.getElem_cons_zero, List.setIfInBounds_toArray, List.set_cons_zero, List.set_cons_succ]
          refine wpAnyH_take (i := 7) (v := ?_) rfl (by kernel_rfl) (by kernel_rfl) (by kernel_rfl) (fun _ _ _ h => h) (Or.inl ⟨by rfl, ?_⟩) (by assumption) ?_
          rotate_left
          · (intro w' hS; (try dsimp only at hS); go_simp; try with_reducible rfl)
          try simp only [Act.put, List.getElem_toArray, List.getElem_cons_succ, List.getElem_cons_zero, List.setIfInBounds_toArray, List.set_cons_zero, List.set_cons_succ]
          refine wpAnyH_ready (rs := [8]) (by kernel_rfl) (by simp) ?_
          refine AllReadyH.cons rfl (fun K hK => ?_) AllReadyH.nil
          go_simp
          have hz := T1.2.2.lt
          have T1 := T1.alloc (.cells #[.int .i64 0, .int .i64 0, .bool false] 25)
          have Z := At3.new 25 wx 0 0 false
          refine hK.out _ _ (⟨T1.2.1.c0, T1.2.1.c1, T1.2.2.c0, T1.2.2.c1⟩) (fun hHeld => ?_)
          clear hK K
          try simp only [Act.put, List.getElem_toArray, List.getElem_cons_succ, List.getElem_cons_zero, List.setIfInBounds_toArray, List.set_cons_zero, List.set_cons_succ]
          generalize World.alloc _ (.cells #[.int .i64 0, .int .i64 0, .bool false] 25) = WA at T1 Z ⊢
          generalize wx.heap.size = pz at Z hz ⊢
          clear hHeld
          have d0 := Z.c0
          have d1 := Z.c1
          have d2 := Z.c2
          have d3 := Z.f0
          have d4 := Z.f1
          have d5 := Z.f2
          have T1 := T1.put hz m n b
          have Z := Z.put (a := m) (c := n) (d := b)
          refine wpAnyH_ready (rs := [9]) (by kernel_rfl) (by simp) ?_
          refine AllReadyH.cons rfl (fun K hK => ?_) AllReadyH.nil
          go_simp
          refine hK.out _ _ (⟨T1.2.1.c0, T1.2.1.c1, T1.2.2.c0, T1.2.2.c1⟩) (fun hHeld => ?_)
          clear hK K
          try simp only [Act.put, List.getElem_toArray, List.getElem_cons_succ, List.getElem_cons_zero, List.setIfInBounds_toArray, List.set_cons_zero, List.set_cons_succ]
          refine wpAnyH_take (i := 10) (v := ?_) rfl (by kernel_rfl) (by kernel_rfl) (by kernel_rfl) (fun _ _ _ h => h) (Or.inl ⟨by rfl, ?_⟩) (by assumption) ?_
          rotate_left
          · (intro w' hS; (try dsimp only at hS); go_simp; try with_reducible rfl)
          try simp only [Act.put, List.getElem_toArray, List.getElem_cons_succ, List.getElem_cons_zero, List.setIfInBounds_toArray, List.set_cons_zero, List.set_cons_succ]
          refine wpAnyH_done (by kernel_rfl) ?_ _
          refine NoPanic.normal ?_
          exact R.out _ pz ⟨T1, Z, hz⟩
        ·
          go_simp
          have hz := T1.2.2.lt
          have T1 := T1.alloc (.cells #[.int .i64 0, .int .i64 0, .bool false] 25)
          have Z := At3.new 25 wx 0 0 false
          refine hK.out _ _ (⟨T1.2.1.c0, T1.2.1.c1, T1.2.2.c0, T1.2.2.c1⟩) (fun hHeld => ?_)
          clear hK K
          try simp only [Act.put, List.getElem_toArray, List.getElem_cons_succ, List.getElem_cons_zero, List.setIfInBounds_toArray, List.set_cons_zero, List.set_cons_succ]
          generalize World.alloc _ (.cells #[.int .i64 0, .int .i64 0, .bool false] 25) = WA at T1 Z ⊢
          generalize wx.heap.size = pz at Z hz ⊢
          clear hHeld
          refine wpAnyH_ready (rs := [4]) (by kernel_rfl) (by simp) ?_
          refine AllReadyH.cons rfl (fun K hK => ?_) AllReadyH.nil
          go_simp
          refine (HS.out _).mono ?_
          rintro e wx ⟨rfl, hbx⟩
          have T1 := T1.on hbx
          have Z := Z.on hbx
          clear hbx
          go_wp2_with fail
          refine hK.out _ _ (⟨T1.2.1.c0, T1.2.1.c1, T1.2.2.c0, T1.2.2.c1⟩) (fun hHeld => ?_)
          clear hK K
          try simp only [Act.put, List.getElem_toArray, List.getElem_cons_succ, List.getElem_cons_zero, List.setIfInBounds_toArray, List.set_cons_zero, List.set_cons_succ]
          refine wpAnyH_take (i := 5) (v := ?_) rfl (by kernel_rfl) (by kernel_rfl) (by kernel_rfl) (fun _ _ _ h => h) (Or.inl ⟨by rfl, ?_⟩) (by assumption) ?_
          rotate_left
          · (intro w' hS; (try dsimp only at hS); go_simp; try with_reducible rfl)
          try simp only [Act.put, List.getElem_toArray, List.getElem_cons_succ, List.getElem_cons_zero, List.setIfInBounds_toArray, List.set_cons_zero, List.set_cons_succ]
          refine wpAnyH_take (i := 6) (v := ?_) rfl (by kernel_rfl) (by kernel_rfl) (by kernel_rfl) (fun _ _ _ h => h) (Or.inl ⟨by rfl, ?_⟩) (by assumption) ?_
          rotate_left
          · (intro w' hS; (try dsimp only at hS); go_simp; try with_reducible rfl)
          try simp only [Act.put, List.getElem_toArray, List.getElem_cons_succ, List.getElem_cons_zero, List.setIfInBounds_toArray, List.set_cons_zero, List.set_cons_succ]
          refine wpAnyH_take (i := 7) (v := ?_) rfl (by kernel_rfl) (by kernel_rfl) (by kernel_rfl) (fun _ _ _ h => h) (Or.inl ⟨by rfl, ?_⟩) (by assumption) ?_
          rotate_left
          · (intro w' hS; (try dsimp only at hS); go_simp; try with_reducible rfl)
          try simp only [Act.put, List.getElem_toArray, List.getElem_cons_succ, List.getElem_cons_zero, List.setIfInBounds_toArray, List.set_cons_zero, List.set_cons_succ]
          have d0 := Z.c0
          have d1 := Z.c1
          have d2 := Z.c2
          have d3 := Z.f0
          have d4 := Z.f1
          have d5 := Z.f2
          have T1 := T1.put hz m n b
          have Z := Z.put (a := m) (c := n) (d := b)
          refine wpAnyH_ready (rs := [9]) (by kernel_rfl) (by simp) ?_
          refine AllReadyH.cons rfl (fun K hK => ?_) AllReadyH.nil
          go_simp
          refine hK.out _ _ (⟨T1.2.1.c0, T1.2.1.c1, T1.2.2.c0, T1.2.2.c1⟩) (fun hHeld => ?_)
          clear hK K
          try simp only [Act.put, List.getElem_toArray, List.getElem_cons_succ, List.getElem_cons_zero, List.setIfInBounds_toArray, List.set_cons_zero, List.set_cons_succ]
          refine wpAnyH_take (i := 10) (v := ?_) rfl (by kernel_rfl) (by kernel_rfl) (by kernel_rfl) (fun _ _ _ h => h) (Or.inl ⟨by rfl, ?_⟩) (by assumption) ?_
          rotate_left
          · (intro w' hS; (try dsimp only at hS); go_simp; try with_reducible rfl)
          try simp only [Act.put, List.getElem_toArray, List.getElem_cons_succ, List.getElem_cons_zero, List.setIfInBounds_toArray, List.set_cons_zero, List.set_cons_succ]
          refine wpAnyH_done (by kernel_rfl) ?_ _
          refine NoPanic.normal ?_
          exact R.out _ pz ⟨T1, Z, hz⟩
      ·
        go_simp
        have hz := T1.2.2.lt
        have T1 := T1.alloc (.cells #[.int .i64 0, .int .i64 0, .bool false] 25)
        have Z := At3.new 25 wx 0 0 false
        refine hK.out _ _ (⟨T1.2.1.c0, T1.2.1.c1, T1.2.2.c0, T1.2.2.c1⟩) (fun hHeld => ?_)
        clear hK K
        try simp only [Act.put, List.getElem_toArray, List.getElem_cons_succ, List.getElem_cons_zero, List.setIfInBounds_toArray, List.set_cons_zero, List.set_cons_succ]
        generalize World.alloc _ (.cells #[.int .i64 0, .int .i64 0, .bool false] 25) = WA at T1 Z ⊢
        generalize wx.heap.size = pz at Z hz ⊢
        clear hHeld
        refine wpAnyH_ready (rs := [3]) (by kernel_rfl) (by simp) ?_
        refine AllReadyH.cons rfl (fun K hK => ?_) AllReadyH.nil
        go_simp
        refine (toCell _ _ _).mono ?_
        rintro e wx ⟨rfl, hbx⟩
        have T1 := T1.on hbx
        have Z := Z.on hbx
        clear hbx
        go_wp2_with fail
        refine hK.out _ _ (⟨T1.2.1.c0, T1.2.1.c1, T1.2.2.c0, T1.2.2.c1⟩) (fun hHeld => ?_)
        clear hK K
        try simp only [Act.put, List.getElem_toArray, List.getElem_cons_succ, List.getElem_cons_zero, List.setIfInBounds_toArray, List.set_cons_zero, List.set_cons_succ]
        refine wpAnyH_ready (rs := [4]) (by kernel_rfl) (by simp) ?_
        refine AllReadyH.cons rfl (fun K hK => ?_) AllReadyH.nil
        go_simp
        refine (HS.out _).mono ?_
        rintro e wx ⟨rfl, hbx⟩
        have T1 := T1.on hbx
        have Z := Z.on hbx
        clear hbx
        go_wp2_with fail
        refine hK.out _ _ (⟨T1.2.1.c0, T1.2.1.c1, T1.2.2.c0, T1.2.2.c1⟩) (fun hHeld => ?_)
        clear hK K
        try simp only [Act.put, List.getElem_toArray, List.getElem_cons_succ, List.getElem_cons_zero, List.setIfInBounds_toArray, List.set_cons_zero, List.set_cons_succ]
        refine wpAnyH_take (i := 5) (v := ?_) rfl (by kernel_rfl) (by kernel_rfl) (by kernel_rfl) (fun _ _ _ h => h) (Or.inl ⟨by rfl, ?_⟩) (by assumption) ?_
        rotate_left
        · (intro w' hS; (try dsimp only at hS); go_simp; try with_reducible rfl)
        try simp only [Act.put, List.getElem_toArray, List.getElem_cons_succ, List.getElem_cons_zero, List.setIfInBounds_toArray, List.set_cons_zero, List.set_cons_succ]
        refine wpAnyH_take (i := 6) (v := ?_) rfl (by kernel_rfl) (by kernel_rfl) (by kernel_rfl) (fun _ _ _ h => h) (Or.inl ⟨by rfl, ?_⟩) (by assumption) ?_
        rotate_left
        · (intro w' hS; (try dsimp only at hS); go_simp; try with_reducible rfl)
        try simp only [Act.put, List.getElem_toArray, List.getElem_cons_succ, List.getElem_cons_zero, List.setIfInBounds_toArray, List.set_cons_zero, List.set_cons_succ]
        refine wpAnyH_take (i := 7) (v := ?_) rfl (by kernel_rfl) (by kernel_rfl) (by kernel_rfl) (fun _ _ _ h => h) (Or.inl ⟨by rfl, ?_⟩) (by assumption) ?_
        rotate_left
        · (intro w' hS; (try dsimp only at hS); go_simp; try with_reducible rfl)
        try simp only [Act.put, List.getElem_toArray, List.getElem_cons_succ, List.getElem_cons_zero, List.setIfInBounds_toArray, List.set_cons_zero, List.set_cons_succ]
        have d0 := Z.c0
        have d1 := Z.c1
        have d2 := Z.c2
        have d3 := Z.f0
        have d4 := Z.f1
        have d5 := Z.f2
        have T1 := T1.put hz m n b
        have Z := Z.put (a := m) (c := n) (d := b)
        refine wpAnyH_ready (rs := [9]) (by kernel_rfl) (by simp) ?_
        refine AllReadyH.cons rfl (fun K hK => ?_) AllReadyH.nil
        go_simp
        refine hK.out _ _ (⟨T1.2.1.c0, T1.2.1.c1, T1.2.2.c0, T1.2.2.c1⟩) (fun hHeld => ?_)
        clear hK K
        try simp only [Act.put, List.getElem_toArray, List.getElem_cons_succ, List.getElem_cons_zero, List.setIfInBounds_toArray, List.set_cons_zero, List.set_cons_succ]
        refine wpAnyH_take (i := 10) (v := ?_) rfl (by kernel_rfl) (by kernel_rfl) (by kernel_rfl) (fun _ _ _ h => h) (Or.inl ⟨by rfl, ?_⟩) (by assumption) ?_
        rotate_left
        · (intro w' hS; (try dsimp only at hS); go_simp; try with_reducible rfl)
        try simp only [Act.put, List.getElem_toArray, List.getElem_cons_succ, List.getElem_cons_zero, List.setIfInBounds_toArray, List.set_cons_zero, List.set_cons_succ]
        refine wpAnyH_done (by kernel_rfl) ?_ _
        refine NoPanic.normal ?_
        exact R.out _ pz ⟨T1, Z, hz⟩
    ·
      go_simp
      have hz := T1.2.2.lt
      have T1 := T1.alloc (.cells #[.int .i64 0, .int .i64 0, .bool false] 25)
      have Z := At3.new 25 WR 0 0 false
      refine hK.out _ _ (⟨T1.2.1.c0, T1.2.1.c1, T1.2.2.c0, T1.2.2.c1⟩) (fun hHeld => ?_)
      clear hK K
      try simp only [Act.put, List.getElem_toArray, List.getElem_cons_succ, List.getElem_cons_zero, List.setIfInBounds_toArray, List.set_cons_zero, List.set_cons_succ]
      generalize World.alloc _ (.cells #[.int .i64 0, .int .i64 0, .bool false] 25) = WA at T1 Z ⊢
      generalize WR.heap.size = pz at Z hz ⊢
      clear hHeld
      refine wpAnyH_ready (rs := [1]) (by kernel_rfl) (by simp) ?_
      refine AllReadyH.cons rfl (fun K hK => ?_) AllReadyH.nil
      go_simp
      refine (toCell _ _ _).mono ?_
      rintro e wx ⟨rfl, hbx⟩
      have T1 := T1.on hbx
      have Z := Z.on hbx
      clear hbx
      go_wp2_with fail
      refine hK.out _ _ (⟨T1.2.1.c0, T1.2.1.c1, T1.2.2.c0, T1.2.2.c1⟩) (fun hHeld => ?_)
      clear hK K
      try simp only [Act.put, List.getElem_toArray, List.getElem_cons_succ, List.getElem_cons_zero, List.setIfInBounds_toArray, List.set_cons_zero, List.set_cons_succ]
      refine wpAnyH_ready (rs := [3]) (by kernel_rfl) (by simp) ?_
      refine AllReadyH.cons rfl (fun K hK => ?_) AllReadyH.nil
      go_simp
      refine (toCell _ _ _).mono ?_
      rintro e wx ⟨rfl, hbx⟩
      have T1 := T1.on hbx
      have Z := Z.on hbx
      clear hbx
      go_wp2_with fail
      refine hK.out _ _ (⟨T1.2.1.c0, T1.2.1.c1, T1.2.2.c0, T1.2.2.c1⟩) (fun hHeld => ?_)
      clear hK K
      try simp only [Act.put, List.getElem_toArray, List.getElem_cons_succ, List.getElem_cons_zero, List.setIfInBounds_toArray, List.set_cons_zero, List.set_cons_succ]
      refine wpAnyH_ready (rs := [4]) (by kernel_rfl) (by simp) ?_
      refine AllReadyH.cons rfl (fun K hK => ?_) AllReadyH.nil
      go_simp
      refine (HS.out _).mono ?_
      rintro e wx ⟨rfl, hbx⟩
      have T1 := T1.on hbx
      have Z := Z.on hbx
      clear hbx
      go_wp2_with fail
      refine hK.out _ _ (⟨T1.2.1.c0, T1.2.1.c1, T1.2.2.c0, T1.2.2.c1⟩) (fun hHeld => ?_)
      clear hK K
      try simp only [Act.put, List.getElem_toArray, List.getElem_cons_succ, List.getElem_cons_zero, List.setIfInBounds_toArray, List.set_cons_zero, List.set_cons_succ]
      refine wpAnyH_take (i := 5) (v := ?_) rfl (by kernel_rfl) (by kernel_rfl) (by kernel_rfl) (fun _ _ _ h => h) (Or.inl ⟨by rfl, ?_⟩) (by assumption) ?_
      rotate_left
      · (intro w' hS; (try dsimp only at hS); go_simp; try with_reducible rfl)
      try simp only [Act.put, List.getElem_toArray, List.getElem_cons_succ, List.getElem_cons_zero, List.setIfInBounds_toArray, List.set_cons_zero, List.set_cons_succ]
      refine wpAnyH_take (i := 6) (v := ?_) rfl (by kernel_rfl) (by kernel_rfl) (by kernel_rfl) (fun _ _ _ h => h) (Or.inl ⟨by rfl, ?_⟩) (by assumption) ?_
      rotate_left
      · (intro w' hS; (try dsimp only at hS); go_simp; try with_reducible rfl)
      try simp only [Act.put, List.getElem_toArray, List.getElem_cons_succ, List.getElem_cons_zero, List.setIfInBounds_toArray, List.set_cons_zero, List.set_cons_succ]
      refine wpAnyH_take (i := 7) (v := ?_) rfl (by kernel_rfl) (by kernel_rfl) (by kernel_rfl) (fun _ _ _ h => h) (Or.inl ⟨by rfl, ?_⟩) (by assumption) ?_
      rotate_left
      · (intro w' hS; (try dsimp only at hS); go_simp; try with_reducible rfl)
      try simp only [Act.put, List.getElem_toArray, List.getElem_cons_succ, List.getElem_cons_zero, List.setIfInBounds_toArray, List.set_cons_zero, List.set_cons_succ]
      have d0 := Z.c0
      have d1 := Z.c1
      have d2 := Z.c2
      have d3 := Z.f0
      have d4 := Z.f1
      have d5 := Z.f2
      have T1 := T1.put hz m n b
      have Z := Z.put (a := m) (c := n) (d := b)
      refine wpAnyH_ready (rs := [9]) (by kernel_rfl) (by simp) ?_
      refine AllReadyH.cons rfl (fun K hK => ?_) AllReadyH.nil
      go_simp
      refine hK.out _ _ (⟨T1.2.1.c0, T1.2.1.c1, T1.2.2.c0, T1.2.2.c1⟩) (fun hHeld => ?_)
      clear hK K
      try simp only [Act.put, List.getElem_toArray, List.getElem_cons_succ, List.getElem_cons_zero, List.setIfInBounds_toArray, List.set_cons_zero, List.set_cons_succ]
      refine wpAnyH_take (i := 10) (v := ?_) rfl (by kernel_rfl) (by kernel_rfl) (by kernel_rfl) (fun _ _ _ h => h) (Or.inl ⟨by rfl, ?_⟩) (by assumption) ?_
      rotate_left
      · (intro w' hS; (try dsimp only at hS); go_simp; try with_reducible rfl)
      try simp only [Act.put, List.getElem_toArray, List.getElem_cons_succ, List.getElem_cons_zero, List.setIfInBounds_toArray, List.set_cons_zero, List.set_cons_succ]
      refine wpAnyH_done (by kernel_rfl) ?_ _
      refine NoPanic.normal ?_
      exact R.out _ pz ⟨T1, Z, hz⟩
  · intro W1 p1 ⟨T1, Z1, hp1⟩
    clear HS
    go_upto_region 2 with fail
    refine' wp_of_rest1 _ (fun W p => TwoC w x y u v W ∧ At3 25 W p m n b ∧ At3 25 W p1 m n b) ?_ ?_
    rotate_left
    · intro Q R
      have R := Lib.hid R
      have T1 := T1.drew
      have Z1 : At3 25 W1.drew p1 m n b := Z1
      refine wp_region_noPanic ?_
      refine wp_region_held_drew (S := (fun w' => w'.cell? ⟨w.heap.size, 0, none⟩ = some (.int .i64 x) ∧ w'.cell? ⟨w.heap.size, 1, none⟩ = some (.int .i64 y) ∧ w'.cell? ⟨w.heap.size + 1, 0, none⟩ = some (.int .i64 u) ∧ w'.cell? ⟨w.heap.size + 1, 1, none⟩ = some (.int .i64 v))) (by kernel_rfl) (⟨T1.2.1.c0, T1.2.1.c1, T1.2.2.c0, T1.2.2.c1⟩) (fun hHeld => ?_)
      generalize World.drew _ = WR at T1 Z1 hHeld ⊢
      refine wpAnyH_take (i := 0) (v := ?_) rfl (by kernel_rfl) (by kernel_rfl) (by kernel_rfl) (fun _ _ _ h => h) (Or.inl ⟨by rfl, ?_⟩) (by assumption) ?_
      rotate_left
      · (intro w' hS; (try dsimp only at hS); go_simp; try with_reducible rfl)
      try simp only [Act.put, List.getElem_toArray, List.getElem_cons_succ, List.getElem_cons_zero, List.setIfInBounds_toArray, List.set_cons_zero, List.set_cons_succ]
      refine wpAnyH_take (i := 2) (v := ?_) rfl (by kernel_rfl) (by kernel_rfl) (by kernel_rfl) (fun _ _ _ h => h) (Or.inl ⟨by rfl, ?_⟩) (by assumption) ?_
      rotate_left
      · (intro w' hS; (try dsimp only at hS); go_simp; try with_reducible rfl)
      try simp only [Act.put, List.getElem_toArray, List.getElem_cons_succ, List.getElem_cons_zero, List.setIfInBounds_toArray, List.set_cons_zero, List.set_cons_succ]
      clear hHeld
      refine wpAnyH_ready (rs := [1, 8]) (by kernel_rfl) (by simp) ?_
      refine AllReadyH.cons rfl (fun K hK => ?_) (AllReadyH.cons rfl (fun K hK => ?_) AllReadyH.nil)
      ·
        go_simp
        refine (toCell _ _ _).mono ?_
        rintro e wx ⟨rfl, hbx⟩
        have T1 := T1.on hbx
        have Z1 := Z1.on hbx
        clear hbx
        go_wp2_with fail
        refine hK.out _ _ (⟨T1.2.1.c0, T1.2.1.c1, T1.2.2.c0, T1.2.2.c1⟩) (fun hHeld => ?_)
        clear hK K
        try simp only [Act.put, List.getElem_toArray, List.getElem_cons_succ, List.getElem_cons_zero, List.setIfInBounds_toArray, List.set_cons_zero, List.set_cons_succ]
        refine wpAnyH_ready (rs := [3, 8]) (by kernel_rfl) (by simp) ?_
        refine AllReadyH.cons rfl (fun K hK => ?_) (AllReadyH.cons rfl (fun K hK => ?_) AllReadyH.nil)
        ·
          go_simp
          refine (toCell _ _ _).mono ?_
          rintro e wx ⟨rfl, hbx⟩
          have T1 := T1.on hbx
          have Z1 := Z1.on hbx
          clear hbx
          go_wp2_with fail
          refine hK.out _ _ (⟨T1.2.1.c0, T1.2.1.c1, T1.2.2.c0, T1.2.2.c1⟩) (fun hHeld => ?_)
          clear hK K
          try simp only [Act.put, List.getElem_toArray, List.getElem_cons_succ, List.getElem_cons_zero, List.setIfInBounds_toArray, List.set_cons_zero, List.set_cons_succ]
          refine wpAnyH_ready (rs := [4, 8]) (by kernel_rfl) (by simp) ?_
          refine AllReadyH.cons rfl (fun K hK => ?_) (AllReadyH.cons rfl (fun K hK => ?_) AllReadyH.nil)
          ·
            go_simp
            refine (HI.out _).mono ?_
            rintro e wx ⟨rfl, hbx⟩
            have T1 := T1.on hbx
            have Z1 := Z1.on hbx
            clear hbx
            go_wp2_with fail
            refine hK.out _ _ (⟨T1.2.1.c0, T1.2.1.c1, T1.2.2.c0, T1.2.2.c1⟩) (fun hHeld => ?_)
            clear hK K
            try simp only [Act.put, List.getElem_toArray, List.getElem_cons_succ, List.getElem_cons_zero, List.setIfInBounds_toArray, List.set_cons_zero, List.set_cons_succ]
            refine wpAnyH_take (i := 5) (v := ?_) rfl (by kernel_rfl) (by kernel_rfl) (by kernel_rfl) (fun _ _ _ h => h) (Or.inl ⟨by rfl, ?_⟩) (by assumption) ?_
            rotate_left
            · (intro w' hS; (try dsimp only at hS); go_simp; try with_reducible rfl)
            try simp only [Act.put, List.getElem_toArray, List.getElem_cons_succ, List.getElem_cons_zero, List.setIfInBounds_toArray, List.set_cons_zero, List.set_cons_succ]
            refine wpAnyH_take (i := 6) (v := ?_) rfl (by kernel_rfl) (by kernel_rfl) (by kernel_rfl) (fun _ _ _ h => h) (Or.inl ⟨by rfl, ?_⟩) (by assumption) ?_
            rotate_left
            · (intro w' hS; (try dsimp only at hS); go_simp; try with_reducible rfl)
            try simp only [Act.put, List.getElem_toArray, List.getElem_cons_succ, List.getElem_cons_zero, List.setIfInBounds_toArray, List.set_cons_zero, List.set_cons_succ]
            refine wpAnyH_take (i := 7) (v := ?_) rfl (by kernel_rfl) (by kernel_rfl) (by kernel_rfl) (fun _ _ _ h => h) (Or.inl ⟨by rfl, ?_⟩) (by assumption) ?_
            rotate_left
            · (intro w' hS; (try dsimp only at hS); go_simp; try with_reducible rfl)
            try simp only [Act.put, List.getElem_toArray, List.getElem_cons_succ, List.getElem_cons_zero, List.setIfInBounds_toArray, List.set_cons_zero, List.set_cons_succ]
            refine wpAnyH_ready (rs := [8]) (by kernel_rfl) (by simp) ?_
            refine AllReadyH.cons rfl (fun K hK => ?_) AllReadyH.nil
            go_simp
            have hz := T1.2.2.lt
            have hz_Z1 := Z1.lt
            have T1 := T1.alloc (.cells #[.int .i64 0, .int .i64 0, .bool false] 25)
            have Z1 := Z1.on (below_alloc1 wx (.cells #[.int .i64 0, .int .i64 0, .bool false] 25))
            have Z := At3.new 25 wx 0 0 false
            refine hK.out _ _ (⟨T1.2.1.c0, T1.2.1.c1, T1.2.2.c0, T1.2.2.c1⟩) (fun hHeld => ?_)
            clear hK K
            try simp only [Act.put, List.getElem_toArray, List.getElem_cons_succ, List.getElem_cons_zero, List.setIfInBounds_toArray, List.set_cons_zero, List.set_cons_succ]
            generalize World.alloc _ (.cells #[.int .i64 0, .int .i64 0, .bool false] 25) = WA at T1 Z Z1 ⊢
            generalize wx.heap.size = pz at Z hz hz_Z1 ⊢
            clear hHeld
            have d0 := Z.c0
            have d1 := Z.c1
            have d2 := Z.c2
            have d3 := Z.f0
            have d4 := Z.f1
            have d5 := Z.f2
            have T1 := T1.put hz m n b
            have Z1 := ((Z1.far (p := pz) (i := 0) (v := .int .i64 m) (by omega)).far (p := pz) (i := 1) (v := .int .i64 n) (by omega)).far (p := pz) (i := 2) (v := .bool b) (by omega)
            have Z := Z.put (a := m) (c := n) (d := b)
            refine wpAnyH_ready (rs := [9]) (by kernel_rfl) (by simp) ?_
            refine AllReadyH.cons rfl (fun K hK => ?_) AllReadyH.nil
            go_simp
            refine hK.out _ _ (⟨T1.2.1.c0, T1.2.1.c1, T1.2.2.c0, T1.2.2.c1⟩) (fun hHeld => ?_)
            clear hK K
            try simp only [Act.put, List.getElem_toArray, List.getElem_cons_succ, List.getElem_cons_zero, List.setIfInBounds_toArray, List.set_cons_zero, List.set_cons_succ]
            refine wpAnyH_take (i := 10) (v := ?_) rfl (by kernel_rfl) (by kernel_rfl) (by kernel_rfl) (fun _ _ _ h => h) (Or.inl ⟨by rfl, ?_⟩) (by assumption) ?_
            rotate_left
            · (intro w' hS; (try dsimp only at hS); go_simp; try with_reducible rfl)
            try simp only [Act.put, List.getElem_toArray, List.getElem_cons_succ, List.getElem_cons_zero, List.setIfInBounds_toArray, List.set_cons_zero, List.set_cons_succ]
            refine wpAnyH_done (by kernel_rfl) ?_ _
            refine NoPanic.normal ?_
            exact R.out _ pz ⟨T1, Z, Z1⟩
          ·
            go_simp
            have hz := T1.2.2.lt
            have hz_Z1 := Z1.lt
            have T1 := T1.alloc (.cells #[.int .i64 0, .int .i64 0, .bool false] 25)
            have Z1 := Z1.on (below_alloc1 wx (.cells #[.int .i64 0, .int .i64 0, .bool false] 25))
            have Z := At3.new 25 wx 0 0 false
            refine hK.out _ _ (⟨T1.2.1.c0, T1.2.1.c1, T1.2.2.c0, T1.2.2.c1⟩) (fun hHeld => ?_)
            clear hK K
            try simp only [Act.put, List.getElem_toArray, List.getElem_cons_succ, List.getElem_cons_zero, List.setIfInBounds_toArray, List.set_cons_zero, List.set_cons_succ]
            generalize World.alloc _ (.cells #[.int .i64 0, .int .i64 0, .bool false] 25) = WA at T1 Z Z1 ⊢
            generalize wx.heap.size = pz at Z hz hz_Z1 ⊢
            clear hHeld
            refine wpAnyH_ready (rs := [4]) (by kernel_rfl) (by simp) ?_
            refine AllReadyH.cons rfl (fun K hK => ?_) AllReadyH.nil
            go_simp
            refine (HI.out _).mono ?_
            rintro e wx ⟨rfl, hbx⟩
            have T1 := T1.on hbx
            have Z1 := Z1.on hbx
            have Z := Z.on hbx
            clear hbx
            go_wp2_with fail
            refine hK.out _ _ (⟨T1.2.1.c0, T1.2.1.c1, T1.2.2.c0, T1.2.2.c1⟩) (fun hHeld => ?_)
            clear hK K
            try simp only [Act.put, List.getElem_toArray, List.getElem_cons_succ, List.getElem_cons_zero, List.setIfInBounds_toArray, List.set_cons_zero, List.set_cons_succ]
            refine wpAnyH_take (i := 5) (v := ?_) rfl (by kernel_rfl) (by kernel_rfl) (by kernel_rfl) (fun _ _ _ h => h) (Or.inl ⟨by rfl, ?_⟩) (by assumption) ?_
            rotate_left
            · (intro w' hS; (try dsimp only at hS); go_simp; try with_reducible rfl)
            try simp only [Act.put, List.getElem_toArray, List.getElem_cons_succ, List.getElem_cons_zero, List.setIfInBounds_toArray, List.set_cons_zero, List.set_cons_succ]
            refine wpAnyH_take (i := 6) (v := ?_) rfl (by kernel_rfl) (by kernel_rfl) (by kernel_rfl) (fun _ _ _ h => h) (Or.inl ⟨by rfl, ?_⟩) (by assumption) ?_
            rotate_left
            · (intro w' hS; (try dsimp only at hS); go_simp; try with_reducible rfl)
            try simp only [Act.put, List.getElem_toArray, List.getElem_cons_succ, List.getElem_cons_zero, List.setIfInBounds_toArray, List.set_cons_zero, List.set_cons_succ]
            refine wpAnyH_take (i := 7) (v := ?_) rfl (by kernel_rfl) (by kernel_rfl) (by kernel_rfl) (fun _ _ _ h => h) (Or.inl ⟨by rfl, ?_⟩) (by assumption) ?_
            rotate_left
            · (intro w' hS; (try dsimp only at hS); go_simp; try with_reducible rfl)
            try simp only [Act.put, List.getElem_toArray, List.getElem_cons_succ, List.getElem_cons_zero, List.setIfInBounds_toArray, List.set_cons_zero, List.set_cons_succ]
            have d0 := Z.c0
            have d1 := Z.c1
            have d2 := Z.c2
            have d3 := Z.f0
            have d4 := Z.f1
            have d5 := Z.f2
            have T1 := T1.put hz m n b
            have Z1 := ((Z1.far (p := pz) (i := 0) (v := .int .i64 m) (by omega)).far (p := pz) (i := 1) (v := .int .i64 n) (by omega)).far (p := pz) (i := 2) (v := .bool b) (by omega)
            have Z := Z.put (a := m) (c := n) (d := b)
            refine wpAnyH_ready (rs := [9]) (by kernel_rfl) (by simp) ?_
            refine AllReadyH.cons rfl (fun K hK => ?_) AllReadyH.nil
            go_simp
            refine hK.out _ _ (⟨T1.2.1.c0, T1.2.1.c1, T1.2.2.c0, T1.2.2.c1⟩) (fun hHeld => ?_)
            clear hK K
            try simp only [Act.put, List.getElem_toArray, List.getElem_cons_succ, List.getElem_cons_zero, List.setIfInBounds_toArray, List.set_cons_zero, List.set_cons_succ]
            refine wpAnyH_take (i := 10) (v := ?_) rfl (by kernel_rfl) (by kernel_rfl) (by kernel_rfl) (fun _ _ _ h => h) (Or.inl ⟨by rfl, ?_⟩) (by assumption) ?_
            rotate_left
            · (intro w' hS; (try dsimp only at hS); go_simp; try with_reducible rfl)
            try simp only [Act.put, List.getElem_toArray, List.getElem_cons_succ, List.getElem_cons_zero, List.setIfInBounds_toArray, List.set_cons_zero, List.set_cons_succ]
            refine wpAnyH_done (by kernel_rfl) ?_ _
            refine NoPanic.normal ?_
            exact R.out _ pz ⟨T1, Z, Z1⟩
        ·
          go_simp
          have hz := T1.2.2.lt
          have hz_Z1 := Z1.lt
          have T1 := T1.alloc (.cells #[.int .i64 0, .int .i64 0, .bool false] 25)
          have Z1 := Z1.on (below_alloc1 wx (.cells #[.int .i64 0, .int .i64 0, .bool false] 25))
          have Z := At3.new 25 wx 0 0 false
          refine hK.out _ _ (⟨T1.2.1.c0, T1.2.1.c1, T1.2.2.c0, T1.2.2.c1⟩) (fun hHeld => ?_)
          clear hK K
          try simp only [Act.put, List.getElem_toArray, List.getElem_cons_succ, List.getElem_cons_zero, List.setIfInBounds_toArray, List.set_cons_zero, List.set_cons_succ]
          generalize World.alloc _ (.cells #[.int .i64 0, .int .i64 0, .bool false] 25) = WA at T1 Z Z1 ⊢
          generalize wx.heap.size = pz at Z hz hz_Z1 ⊢
          clear hHeld
          refine wpAnyH_ready (rs := [3]) (by kernel_rfl) (by simp) ?_
          refine AllReadyH.cons rfl (fun K hK => ?_) AllReadyH.nil
          go_simp
          refine (toCell _ _ _).mono ?_
          rintro e wx ⟨rfl, hbx⟩
          have T1 := T1.on hbx
          have Z1 := Z1.on hbx
          have Z := Z.on hbx
          clear hbx
          go_wp2_with fail
          refine hK.out _ _ (⟨T1.2.1.c0, T1.2.1.c1, T1.2.2.c0, T1.2.2.c1⟩) (fun hHeld => ?_)
          clear hK K
          try simp only [Act.put, List.getElem_toArray, List.getElem_cons_succ, List.getElem_cons_zero, List.setIfInBounds_toArray, List.set_cons_zero, List.set_cons_succ]
          refine wpAnyH_ready (rs := [4]) (by kernel_rfl) (by simp) ?_
          refine AllReadyH.cons rfl (fun K hK => ?_) AllReadyH.nil
          go_simp
          refine (HI.out _).mono ?_
          rintro e wx ⟨rfl, hbx⟩
          have T1 := T1.on hbx
          have Z1 := Z1.on hbx
          have Z := Z.on hbx
          clear hbx
          go_wp2_with fail
          refine hK.out _ _ (⟨T1.2.1.c0, T1.2.1.c1, T1.2.2.c0, T1.2.2.c1⟩) (fun hHeld => ?_)
          clear hK K
          try simp only [Act.put, List.getElem_toArray, List.getElem_cons_succ, List.getElem_cons_zero, List.setIfInBounds_toArray, List.set_cons_zero, List.set_cons_succ]
          refine wpAnyH_take (i := 5) (v := ?_) rfl (by kernel_rfl) (by kernel_rfl) (by kernel_rfl) (fun _ _ _ h => h) (Or.inl ⟨by rfl, ?_⟩) (by assumption) ?_
          rotate_left
          · (intro w' hS; (try dsimp only at hS); go_simp; try with_reducible rfl)
          try simp only [Act.put, List.getElem_toArray, List.getElem_cons_succ, List.getElem_cons_zero, List.setIfInBounds_toArray, List.set_cons_zero, List.set_cons_succ]
          refine wpAnyH_take (i := 6) (v := ?_) rfl (by kernel_rfl) (by kernel_rfl) (by kernel_rfl) (fun _ _ _ h => h) (Or.inl ⟨by rfl, ?_⟩) (by assumption) ?_
          rotate_left
          · (intro w' hS; (try dsimp only at hS); go_simp; try with_reducible rfl)
          try simp only [Act.put, List.getElem_toArray, List.getElem_cons_succ, List.getElem_cons_zero, List.setIfInBounds_toArray, List.set_cons_zero, List.set_cons_succ]
          refine wpAnyH_take (i := 7) (v := ?_) rfl (by kernel_rfl) (by kernel_rfl) (by kernel_rfl) (fun _ _ _ h => h) (Or.inl ⟨by rfl, ?_⟩) (by assumption) ?_
          rotate_left
          · (intro w' hS; (try dsimp only at hS); go_simp; try with_reducible rfl)
          try simp only [Act.put, List.getElem_toArray, List.getElem_cons_succ, List.getElem_cons_zero, List.setIfInBounds_toArray, List.set_cons_zero, List.set_cons_succ]
          have d0 := Z.c0
          have d1 := Z.c1
          have d2 := Z.c2
          have d3 := Z.f0
          have d4 := Z.f1
          have d5 := Z.f2
          have T1 := T1.put hz m n b
          have Z1 := ((Z1.far (p := pz) (i := 0) (v := .int .i64 m) (by omega)).far (p := pz) (i := 1) (v := .int .i64 n) (by omega)).far (p := pz) (i := 2) (v := .bool b) (by omega)
          have Z := Z.put (a := m) (c := n) (d := b)
          refine wpAnyH_ready (rs := [9]) (by kernel_rfl) (by simp) ?_
          refine AllReadyH.cons rfl (fun K hK => ?_) AllReadyH.nil
          go_simp
          refine hK.out _ _ (⟨T1.2.1.c0, T1.2.1.c1, T1.2.2.c0, T1.2.2.c1⟩) (fun hHeld => ?_)
          clear hK K
          try simp only [Act.put, List.getElem_toArray, List.getElem_cons_succ, List.getElem_cons_zero, List.setIfInBounds_toArray, List.set_cons_zero, List.set_cons_succ]
          refine wpAnyH_take (i := 10) (v := ?_) rfl (by kernel_rfl) (by kernel_rfl) (by kernel_rfl) (fun _ _ _ h => h) (Or.inl ⟨by rfl, ?_⟩) (by assumption) ?_
          rotate_left
          · (intro w' hS; (try dsimp only at hS); go_simp; try with_reducible rfl)
          try simp only [Act.put, List.getElem_toArray, List.getElem_cons_succ, List.getElem_cons_zero, List.setIfInBounds_toArray, List.set_cons_zero, List.set_cons_succ]
          refine wpAnyH_done (by kernel_rfl) ?_ _
          refine NoPanic.normal ?_
          exact R.out _ pz ⟨T1, Z, Z1⟩
      ·
        go_simp
        have hz := T1.2.2.lt
        have hz_Z1 := Z1.lt
        have T1 := T1.alloc (.cells #[.int .i64 0, .int .i64 0, .bool false] 25)
        have Z1 := Z1.on (below_alloc1 WR (.cells #[.int .i64 0, .int .i64 0, .bool false] 25))
        have Z := At3.new 25 WR 0 0 false
        refine hK.out _ _ (⟨T1.2.1.c0, T1.2.1.c1, T1.2.2.c0, T1.2.2.c1⟩) (fun hHeld => ?_)
        clear hK K
        try simp only [Act.put, List.getElem_toArray, List.getElem_cons_succ, List.getElem_cons_zero, List.setIfInBounds_toArray, List.set_cons_zero, List.set_cons_succ]
        generalize World.alloc _ (.cells #[.int .i64 0, .int .i64 0, .bool false] 25) = WA at T1 Z Z1 ⊢
        generalize WR.heap.size = pz at Z hz hz_Z1 ⊢
        clear hHeld
        refine wpAnyH_ready (rs := [1]) (by kernel_rfl) (by simp) ?_
        refine AllReadyH.cons rfl (fun K hK => ?_) AllReadyH.nil
        go_simp
        refine (toCell _ _ _).mono ?_
        rintro e wx ⟨rfl, hbx⟩
        have T1 := T1.on hbx
        have Z1 := Z1.on hbx
        have Z := Z.on hbx
        clear hbx
        go_wp2_with fail
        refine hK.out _ _ (⟨T1.2.1.c0, T1.2.1.c1, T1.2.2.c0, T1.2.2.c1⟩) (fun hHeld => ?_)
        clear hK K
        try simp only [Act.put, List.getElem_toArray, List.getElem_cons_succ, List.getElem_cons_zero, List.setIfInBounds_toArray, List.set_cons_zero, List.set_cons_succ]
        refine wpAnyH_ready (rs := [3]) (by kernel_rfl) (by simp) ?_
        refine AllReadyH.cons rfl (fun K hK => ?_) AllReadyH.nil
        go_simp
        refine (toCell _ _ _).mono ?_
        rintro e wx ⟨rfl, hbx⟩
        have T1 := T1.on hbx
        have Z1 := Z1.on hbx
        have Z := Z.on hbx
        clear hbx
        go_wp2_with fail
        refine hK.out _ _ (⟨T1.2.1.c0, T1.2.1.c1, T1.2.2.c0, T1.2.2.c1⟩) (fun hHeld => ?_)
        clear hK K
        try simp only [Act.put, List.getElem_toArray, List.getElem_cons_succ, List.getElem_cons_zero, List.setIfInBounds_toArray, List.set_cons_zero, List.set_cons_succ]
        refine wpAnyH_ready (rs := [4]) (by kernel_rfl) (by simp) ?_
        refine AllReadyH.cons rfl (fun K hK => ?_) AllReadyH.nil
        go_simp
        refine (HI.out _).mono ?_
        rintro e wx ⟨rfl, hbx⟩
        have T1 := T1.on hbx
        have Z1 := Z1.on hbx
        have Z := Z.on hbx
        clear hbx
        go_wp2_with fail
        refine hK.out _ _ (⟨T1.2.1.c0, T1.2.1.c1, T1.2.2.c0, T1.2.2.c1⟩) (fun hHeld => ?_)
        clear hK K
        try simp only [Act.put, List.getElem_toArray, List.getElem_cons_succ, List.getElem_cons_zero, List.setIfInBounds_toArray, List.set_cons_zero, List.set_cons_succ]
        refine wpAnyH_take (i := 5) (v := ?_) rfl (by kernel_rfl) (by kernel_rfl) (by kernel_rfl) (fun _ _ _ h => h) (Or.inl ⟨by rfl, ?_⟩) (by assumption) ?_
        rotate_left
        · (intro w' hS; (try dsimp only at hS); go_simp; try with_reducible rfl)
        try simp only [Act.put, List.getElem_toArray, List.getElem_cons_succ, List.getElem_cons_zero, List.setIfInBounds_toArray, List.set_cons_zero, List.set_cons_succ]
        refine wpAnyH_take (i := 6) (v := ?_) rfl (by kernel_rfl) (by kernel_rfl) (by kernel_rfl) (fun _ _ _ h => h) (Or.inl ⟨by rfl, ?_⟩) (by assumption) ?_
        rotate_left
        · (intro w' hS; (try dsimp only at hS); go_simp; try with_reducible rfl)
        try simp only [Act.put, List.getElem_toArray, List.getElem_cons_succ, List.getElem_cons_zero, List.setIfInBounds_toArray, List.set_cons_zero, List.set_cons_succ]
        refine wpAnyH_take (i := 7) (v := ?_) rfl (by kernel_rfl) (by kernel_rfl) (by kernel_rfl) (fun _ _ _ h => h) (Or.inl ⟨by rfl, ?_⟩) (by assumption) ?_
        rotate_left
        · (intro w' hS; (try dsimp only at hS); go_simp; try with_reducible rfl)
        try simp only [Act.put, List.getElem_toArray, List.getElem_cons_succ, List.getElem_cons_zero, List.setIfInBounds_toArray, List.set_cons_zero, List.set_cons_succ]
        have d0 := Z.c0
        have d1 := Z.c1
        have d2 := Z.c2
        have d3 := Z.f0
        have d4 := Z.f1
        have d5 := Z.f2
        have T1 := T1.put hz m n b
        have Z1 := ((Z1.far (p := pz) (i := 0) (v := .int .i64 m) (by omega)).far (p := pz) (i := 1) (v := .int .i64 n) (by omega)).far (p := pz) (i := 2) (v := .bool b) (by omega)
        have Z := Z.put (a := m) (c := n) (d := b)
        refine wpAnyH_ready (rs := [9]) (by kernel_rfl) (by simp) ?_
        refine AllReadyH.cons rfl (fun K hK => ?_) AllReadyH.nil
        go_simp
        refine hK.out _ _ (⟨T1.2.1.c0, T1.2.1.c1, T1.2.2.c0, T1.2.2.c1⟩) (fun hHeld => ?_)
        clear hK K
        try simp only [Act.put, List.getElem_toArray, List.getElem_cons_succ, List.getElem_cons_zero, List.setIfInBounds_toArray, List.set_cons_zero, List.set_cons_succ]
        refine wpAnyH_take (i := 10) (v := ?_) rfl (by kernel_rfl) (by kernel_rfl) (by kernel_rfl) (fun _ _ _ h => h) (Or.inl ⟨by rfl, ?_⟩) (by assumption) ?_
        rotate_left
        · (intro w' hS; (try dsimp only at hS); go_simp; try with_reducible rfl)
        try simp only [Act.put, List.getElem_toArray, List.getElem_cons_succ, List.getElem_cons_zero, List.setIfInBounds_toArray, List.set_cons_zero, List.set_cons_succ]
        refine wpAnyH_done (by kernel_rfl) ?_ _
        refine NoPanic.normal ?_
        exact R.out _ pz ⟨T1, Z, Z1⟩
    · intro W2 p2 ⟨T2, Z2, Z1⟩
      have hb := T2.1
      have c0 := Z1.c0
      have c1 := Z1.c1
      have c2 := Z1.c2
      have d0 := Z2.c0
      have d1 := Z2.c1
      have d2 := Z2.c2
      go_wp2_with fail
      refine (eqDominoSame m n b _).mono ?_
      rintro e w5 ⟨rfl, hb5⟩
      have hb := hb.trans (hb5.mono hb.size)
      clear T1 T2 Z1 Z2 c0 c1 c2 d0 d1 d2 hb5
      go_wp2
      go_ret
      exact ⟨rfl, hb⟩
end Go.Proofs.Ytgoljloklhencaa.Dom
