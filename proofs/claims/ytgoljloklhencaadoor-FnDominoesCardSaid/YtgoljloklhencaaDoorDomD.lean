/- The model's draw of two valid dominoes out of a code. -/
import Derived.Test.YtgoljloklhencaaDoorDomO
import Derived.Test.YtgoljloklhencaaDoorDraw0
namespace Go.Proofs.YtgoljloklhencaaDoor.DomD
set_option linter.unusedVariables false
set_option linter.unusedSimpArgs false
open Go.RowKit Go.Proofs.YtgoljloklhencaaDoor.Base Go.Proofs.YtgoljloklhencaaDoor.Cell Go.Proofs.YtgoljloklhencaaDoor.Draw Go.Proofs.YtgoljloklhencaaDoor.Dom Go.Joins

theorem dom_down {x y : Int} (x0 : 0 ≤ x) (x1 : x < 8) (y0 : 0 ≤ y) (y1 : y < 7) : domB x y true = true := by
  have e : wrap64 (y + 1) = y + 1 := by unfold wrap64; omega
  unfold domB
  rw [show sx x true = x from rfl, show sy y true = wrap64 (y + 1) from rfl, e, Bool.and_eq_true, okB_iff, okB_iff]
  exact ⟨⟨x0, by omega, y0, by omega⟩, x0, by omega, by omega, by omega⟩
theorem dom_across {x y : Int} (x0 : 0 ≤ x) (x1 : x < 7) (y0 : 0 ≤ y) (y1 : y < 8) : domB x y false = true := by
  have e : wrap64 (x + 1) = x + 1 := by unfold wrap64; omega
  unfold domB
  rw [show sx x false = wrap64 (x + 1) from rfl, show sy y false = y from rfl, e, Bool.and_eq_true, okB_iff, okB_iff]
  exact ⟨⟨x0, by omega, y0, by omega⟩, by omega, by omega, y0, by omega⟩
theorem At3.grown {T : TypeId} {W W' : World} {q g : Nat} {x y : Int} {b : Bool} (h : At3 T W q x y b) (hg : W.grownBy W' (some g)) (hne : q ≠ g) : At3 T W' q x y b :=
  (hg.block q h.lt (fun e => hne (by injection e))).trans h
theorem grown_set {w W : World} {g : Nat} {p : Addr} (h : w.grownBy W (some g)) (hp : w.heap.size ≤ p.block) (v : Value) : w.grownBy (W.setCell p v) (some g) :=
  ⟨h.os, h.tape, h.output, by simpa [World.setCell] using h.size, fun i hi hn => (Below.heap_setCell W p v i (by omega)).trans (h.block i hi hn)⟩
theorem grown_below {w W : World} {B g : Nat} (h : w.grownBy W (some g)) (hB : B ≤ w.heap.size) (hg : B ≤ g) : Below B w W := (Below.refl B w).grown h hB (fun j hj => by injection hj; omega)

/-- a draw of a bool. -/
def DrewB (w : World) (B g : Nat) (A : Option Addr) (len cap : Nat) (e : Ending) (w' : World) : Prop :=
  ∃ x : Bool, e = .returned (.bool x) ∧ Cur w' B g A len cap ∧ w.grownBy w' (some g)
set_option maxHeartbeats 400000 in
theorem once (w : World) (B g : Nat) (A : Option Addr) (len cap : Nat) (n : Int) (h0 : Cur w B g A len cap) :
    Calls Tryd.prog 26 #[.pointer (some ⟨g, 0, none⟩), .int .i64 n] w (DrewB w B g A len cap) := by
  have HC := Lib.hid h0
  clear h0
  go_enter Tryd.func26, Tryd.ntmps26
  go_wp2_with fail
  refine (below w B g A len cap n HC.out).mono ?_
  rintro e w1 ⟨x, hx, rfl, hc, hg⟩
  have HC1 := Lib.hid hc
  clear hc hx
  go_wp2
  all_goals
    go_ret
    exact ⟨_, rfl, HC1.out, hg⟩

/-- a draw of a valid domino. -/
def DrewD (w : World) (B g : Nat) (A : Option Addr) (len cap : Nat) (e : Ending) (w' : World) : Prop :=
  ∃ (x y : Int) (b : Bool), domB x y b = true ∧ e = .returned (.agg #[.int .i64 x, .int .i64 y, .bool b]) ∧ Cur w' B g A len cap ∧ w.grownBy w' (some g)
theorem Cur.far {W : World} {B g : Nat} {A : Option Addr} {len cap : Nat} {p : Addr} (h : Cur W B g A len cap) (hp : B ≤ p.block) (hne : g ≠ p.block) (u : Value) : Cur (W.setCell p u) B g A len cap := by
  obtain ⟨hBg, hlen, hrd, i, x, hi, hbl⟩ := h
  refine ⟨hBg, hlen, hrd.below ((Below.refl B W).setCell hp u), i, x, hi, (Below.heap_setCell W p u g hne).trans hbl⟩

set_option maxHeartbeats 1000000 in
theorem l05Domino (w : World) (B g : Nat) (A : Option Addr) (len cap : Nat) (h0 : Cur w B g A len cap) (hB : B ≤ w.heap.size) :
    Calls Tryd.prog 17 #[.pointer (some ⟨g, 0, none⟩)] w (DrewD w B g A len cap) := by
  have HC := Lib.hid (h0.alloc (.cells #[.int .i64 0, .int .i64 0, .bool false] 25))
  have hgn := h0.lt.2
  have HG := Lib.hid (World.grownBy_alloc w (.cells #[.int .i64 0, .int .i64 0, .bool false] 25) (some g))
  have HZ := Lib.hid (At3.new 25 w 0 0 false)
  clear h0
  go_enter Tryd.func17, Tryd.ntmps17
  go_wp2_with fail
  refine (once _ B g A len cap 2 HC.out).mono ?_
  rintro e w1 ⟨b, rfl, hc, hg1⟩
  have HC1 := Lib.hid hc
  have HG1 := Lib.hid (grown_trans HG.out hg1)
  have HZ1 := Lib.hid (At3.grown HZ.out hg1 (by omega))
  clear hc hg1 HC HG HZ
  cases b
  · go_wp2_with fail
    refine (below _ B g A len cap 7 HC1.out).mono ?_
    rintro e w2 ⟨x, hx, rfl, hc, hg2⟩
    obtain ⟨x0, x1⟩ := hx.2 (by omega)
    have HC2 := Lib.hid hc
    have HG2 := Lib.hid (grown_trans HG1.out hg2)
    have HZ2 := Lib.hid (At3.grown HZ1.out hg2 (by omega))
    clear hc hx hg2 HC1 HG1 HZ1
    go_wp2_with fail
    refine (below _ B g A len cap 8 HC2.out).mono ?_
    rintro e w3 ⟨y, hy, rfl, hc, hg3⟩
    obtain ⟨y0, y1⟩ := hy.2 (by omega)
    have HC3 := Lib.hid hc
    have HG3 := Lib.hid (grown_trans HG2.out hg3)
    have Z := At3.grown HZ2.out hg3 (by omega)
    clear hc hy hg3 HC2 HG2 HZ2
    have HD := Lib.hid (dom_across x0 x1 y0 y1)
    have d0 := Z.c0
    have d1 := Z.c1
    have d2 := Z.c2
    have d3 := Z.f0
    have d4 := Z.f1
    have d5 := Z.f2
    have Z' := Z.put (a := x) (c := y) (d := false)
    clear x0 x1 y0 y1
    go_wp2
    have r0 := Z'.c0
    have r1 := Z'.c1
    have r2 := Z'.c2
    refine bodyPost_ret (v := .agg #[.int .i64 x, .int .i64 y, .bool false]) ?_ rfl ⟨x, y, false, HD.out, rfl, ?_, ?_⟩
    · simp [results, Tryd.results17, go_sem, r0, r1, r2]
    · exact Cur.far (Cur.far (Cur.far HC3.out (by show B ≤ w.heap.size; omega) (by show g ≠ w.heap.size; omega) _) (by show B ≤ w.heap.size; omega) (by show g ≠ w.heap.size; omega) _) (by show B ≤ w.heap.size; omega) (by show g ≠ w.heap.size; omega) _
    · exact grown_set (grown_set (grown_set HG3.out (Nat.le_refl _) _) (Nat.le_refl _) _) (Nat.le_refl _) _
  · go_wp2_with fail
    refine (below _ B g A len cap 8 HC1.out).mono ?_
    rintro e w2 ⟨x, hx, rfl, hc, hg2⟩
    obtain ⟨x0, x1⟩ := hx.2 (by omega)
    have HC2 := Lib.hid hc
    have HG2 := Lib.hid (grown_trans HG1.out hg2)
    have HZ2 := Lib.hid (At3.grown HZ1.out hg2 (by omega))
    clear hc hx hg2 HC1 HG1 HZ1
    go_wp2_with fail
    refine (below _ B g A len cap 7 HC2.out).mono ?_
    rintro e w3 ⟨y, hy, rfl, hc, hg3⟩
    obtain ⟨y0, y1⟩ := hy.2 (by omega)
    have HC3 := Lib.hid hc
    have HG3 := Lib.hid (grown_trans HG2.out hg3)
    have Z := At3.grown HZ2.out hg3 (by omega)
    clear hc hy hg3 HC2 HG2 HZ2
    have HD := Lib.hid (dom_down x0 x1 y0 y1)
    have d0 := Z.c0
    have d1 := Z.c1
    have d2 := Z.c2
    have d3 := Z.f0
    have d4 := Z.f1
    have d5 := Z.f2
    have Z' := Z.put (a := x) (c := y) (d := true)
    clear x0 x1 y0 y1
    go_wp2
    have r0 := Z'.c0
    have r1 := Z'.c1
    have r2 := Z'.c2
    refine bodyPost_ret (v := .agg #[.int .i64 x, .int .i64 y, .bool true]) ?_ rfl ⟨x, y, true, HD.out, rfl, ?_, ?_⟩
    · simp [results, Tryd.results17, go_sem, r0, r1, r2]
    · exact Cur.far (Cur.far (Cur.far HC3.out (by show B ≤ w.heap.size; omega) (by show g ≠ w.heap.size; omega) _) (by show B ≤ w.heap.size; omega) (by show g ≠ w.heap.size; omega) _) (by show B ≤ w.heap.size; omega) (by show g ≠ w.heap.size; omega) _
    · exact grown_set (grown_set (grown_set HG3.out (Nat.le_refl _) _) (Nat.le_refl _) _) (Nat.le_refl _) _

/-- what DrawDominoes holds: the two dominoes that it returns, and the first one drawn. -/
def ST (w : World) (q : Nat) (a1 a2 : Int) (a3 : Bool) (b1 b2 : Int) (b3 : Bool) (x y : Int) (b : Bool) (W : World) : Prop :=
  Below w.heap.size w W ∧ At3 25 W w.heap.size a1 a2 a3 ∧ At3 25 W (w.heap.size + 1) b1 b2 b3 ∧ At3 25 W q x y b
section
variable {w W : World} {q : Nat} {a1 a2 : Int} {a3 : Bool} {b1 b2 : Int} {b3 : Bool} {x y : Int} {b : Bool}
theorem ST.put1 (h : ST w q a1 a2 a3 b1 b2 b3 x y b W) (hq : w.heap.size + 1 < q) (c1 c2 : Int) (c3 : Bool) :
    ST w q c1 c2 c3 b1 b2 b3 x y b (((W.setCell ⟨w.heap.size, 0, none⟩ (.int .i64 c1)).setCell ⟨w.heap.size, 1, none⟩ (.int .i64 c2)).setCell ⟨w.heap.size, 2, none⟩ (.bool c3)) :=
  ⟨((h.1.setCell (p := ⟨w.heap.size, 0, none⟩) (Nat.le_refl _) _).setCell (p := ⟨w.heap.size, 1, none⟩) (Nat.le_refl _) _).setCell (p := ⟨w.heap.size, 2, none⟩) (Nat.le_refl _) _, h.2.1.put,
   ((h.2.2.1.far (by omega)).far (by omega)).far (by omega), ((h.2.2.2.far (by omega)).far (by omega)).far (by omega)⟩
theorem ST.put2 (h : ST w q a1 a2 a3 b1 b2 b3 x y b W) (hq : w.heap.size + 1 < q) (c1 c2 : Int) (c3 : Bool) :
    ST w q a1 a2 a3 c1 c2 c3 x y b (((W.setCell ⟨w.heap.size + 1, 0, none⟩ (.int .i64 c1)).setCell ⟨w.heap.size + 1, 1, none⟩ (.int .i64 c2)).setCell ⟨w.heap.size + 1, 2, none⟩ (.bool c3)) :=
  ⟨((h.1.setCell (p := ⟨w.heap.size + 1, 0, none⟩) (by show w.heap.size ≤ w.heap.size + 1; omega) _).setCell (p := ⟨w.heap.size + 1, 1, none⟩) (by show w.heap.size ≤ w.heap.size + 1; omega) _).setCell (p := ⟨w.heap.size + 1, 2, none⟩) (by show w.heap.size ≤ w.heap.size + 1; omega) _,
   ((h.2.1.far (by omega)).far (by omega)).far (by omega), h.2.2.1.put, ((h.2.2.2.far (by omega)).far (by omega)).far (by omega)⟩
end
set_option maxHeartbeats 1000000 in
theorem drawDominoes (w : World) (A : Option Addr) (len cap : Nat) (h0 : Coded w w.heap.size A len) :
    Calls Tryd.prog 6 #[.slice A len cap] w fun e w' => ∃ (x y : Int) (b : Bool) (u v : Int) (c : Bool), domB x y b = true ∧ domB u v c = true ∧
      e = .returned (.tuple #[.agg #[.int .i64 x, .int .i64 y, .bool b], .agg #[.int .i64 u, .int .i64 v, .bool c]]) ∧ Below w.heap.size w w' := by
  obtain ⟨hb0, Z1, Z2⟩ := bx33 (T := 25) (T' := 25) 0 0 false 0 0 false w _ (Below.refl _ _)
  have hsz : ((w.alloc (.cells #[.int .i64 0, .int .i64 0, .bool false] 25)).alloc (.cells #[.int .i64 0, .int .i64 0, .bool false] 25)).heap.size = w.heap.size + 1 + 1 := by simp
  have hc0 : Coded ((w.alloc (.cells #[.int .i64 0, .int .i64 0, .bool false] 25)).alloc (.cells #[.int .i64 0, .int .i64 0, .bool false] 25)) ((w.alloc (.cells #[.int .i64 0, .int .i64 0, .bool false] 25)).alloc (.cells #[.int .i64 0, .int .i64 0, .bool false] 25)).heap.size A len := by
    obtain ⟨hl, hr⟩ := h0
    obtain ⟨b, off, f, hA, hc⟩ := hr.below hb0
    exact ⟨hl, b, off, f, fun h => ⟨by have := (hA h).1; omega, (hA h).2⟩, hc⟩
  have HW := Lib.hid (And.intro hb0 (And.intro Z1 (And.intro Z2 (And.intro hsz hc0))))
  clear h0 hb0 Z1 Z2 hsz hc0
  go_enter Tryd.func6, Tryd.ntmps6
  go_upto_region 1 with fail
  generalize (w.alloc (.cells #[.int .i64 0, .int .i64 0, .bool false] 25)).alloc (.cells #[.int .i64 0, .int .i64 0, .bool false] 25) = W0 at HW ⊢
  obtain ⟨hb0, Z1, Z2, hsz, hc0⟩ := HW.out
  have HC := Lib.hid hc0
  clear hc0 HW
  go_wp2_with fail
  refine (new _ A len cap HC.out).mono ?_
  rintro e w1 ⟨g, rfl, hc, hb1⟩
  have hg := hc.lt
  have hbb := hb0.trans (hb1.mono hb0.size)
  have Z1 := Z1.on hb1
  have Z2 := Z2.on hb1
  have hs1 := hb1.size
  have HC1 := Lib.hid hc
  clear hc hb1 hb0 HC
  go_wp2_with fail
  refine (l05Domino w1 _ g A len cap HC1.out hs1).mono ?_
  rintro e w2 ⟨x, y, b, hd, rfl, hc, hg2⟩
  have hbb := hbb.grown hg2 hbb.size (fun j hj => by injection hj; omega)
  have Z1 := At3.grown Z1 hg2 (by omega)
  have Z2 := At3.grown Z2 hg2 (by omega)
  have hs2 := hg2.size
  have hg3 := hc.lt
  have HC2 := Lib.hid (hc.alloc (.cells #[.int .i64 x, .int .i64 y, .bool b] 25))
  have HD := Lib.hid hd
  clear hc hg2 HC1 hd
  go_upto_region 3 with fail
  have Z3 := At3.new 25 w2 x y b
  have hb3 := below_alloc1 w2 (.cells #[.int .i64 x, .int .i64 y, .bool b] 25)
  have hs3 : (w2.alloc (.cells #[.int .i64 x, .int .i64 y, .bool b] 25)).heap.size = w2.heap.size + 1 := by simp
  have Z1 := Z1.on hb3
  have Z2 := Z2.on hb3
  have hbb := hbb.trans (hb3.mono hbb.size)
  clear hb3
  generalize w2.alloc (.cells #[.int .i64 x, .int .i64 y, .bool b] 25) = W3 at HC2 Z1 Z2 Z3 hbb hs3 ⊢
  have hq : w.heap.size + 1 < w2.heap.size := by omega
  have hqg : w2.heap.size ≠ g := by omega
  have hBs : W0.heap.size ≤ W3.heap.size := by omega
  have hgn : w.heap.size + 1 < g := by omega
  generalize w2.heap.size = q at Z3 hq hqg ⊢
  clear hs1 hs2 hs3 hg3 hg hsz
  have T1 : ST w q 0 0 false 0 0 false x y b W3.drew := ⟨hbb.drew, Z1, Z2, Z3⟩
  have HC2 : Hid (Cur W3.drew W0.heap.size g A len cap) := Lib.hid HC2.out
  have hBs : W0.heap.size ≤ W3.drew.heap.size := hBs
  refine wp_region_noPanic ?_
  refine wp_region_held_drew (S := (fun w' => w'.cell? ⟨q, 0, none⟩ = some (.int .i64 x) ∧ w'.cell? ⟨q, 1, none⟩ = some (.int .i64 y) ∧ w'.cell? ⟨q, 2, none⟩ = some (.bool b))) (by kernel_rfl) (⟨T1.2.2.2.c0, T1.2.2.2.c1, T1.2.2.2.c2⟩) (fun hHeld => ?_)
  clear hbb Z1 Z2 Z3
  refine wpAnyH_take (i := 0) (v := ?_) rfl (by kernel_rfl) (by kernel_rfl) (by kernel_rfl) (fun _ _ _ h => h) (Or.inl ⟨by rfl, ?_⟩) (by assumption) ?_
  rotate_left
  · (intro w' hS; (try dsimp only at hS); go_simp; try with_reducible rfl)
  try simp only [Act.put, List.getElem_toArray, List.getElem_cons_succ, List.getElem_cons_zero, List.setIfInBounds_toArray, List.set_cons_zero, List.set_cons_succ]
  refine wpAnyH_take (i := 1) (v := ?_) rfl (by kernel_rfl) (by kernel_rfl) (by kernel_rfl) (fun _ _ _ h => h) (Or.inl ⟨by rfl, ?_⟩) (by assumption) ?_
  rotate_left
  · (intro w' hS; (try dsimp only at hS); go_simp; try with_reducible rfl)
  try simp only [Act.put, List.getElem_toArray, List.getElem_cons_succ, List.getElem_cons_zero, List.setIfInBounds_toArray, List.set_cons_zero, List.set_cons_succ]
  refine wpAnyH_ready (rs := [2]) (by kernel_rfl) (by simp) ?_
  refine AllReadyH.cons rfl (fun K hK => ?_) AllReadyH.nil
  go_simp
  refine (l05Domino _ _ g A len cap HC2.out hBs).mono ?_
  rintro e wx ⟨u, v, c, he, rfl, hc4, hg4⟩
  have HE := Lib.hid he
  have T2 : ST w q 0 0 false 0 0 false x y b _ := ⟨T1.1.grown hg4 T1.1.size (fun j hj => by injection hj; omega), At3.grown T1.2.1 hg4 (by omega), At3.grown T1.2.2.1 hg4 (by omega), At3.grown T1.2.2.2 hg4 hqg⟩
  clear he hc4 hg4 HC2 T1 hBs
  go_wp2_with fail
  refine hK.out _ _ (⟨T2.2.2.2.c0, T2.2.2.2.c1, T2.2.2.2.c2⟩) (fun hHeld => ?_)
  clear hK K
  try simp only [Act.put, List.getElem_toArray, List.getElem_cons_succ, List.getElem_cons_zero, List.setIfInBounds_toArray, List.set_cons_zero, List.set_cons_succ]
  refine wpAnyH_ready (rs := [3]) (by kernel_rfl) (by simp) ?_
  refine AllReadyH.cons rfl (fun K hK => ?_) AllReadyH.nil
  have d0 := T2.2.1.c0
  have d1 := T2.2.1.c1
  have d2 := T2.2.1.c2
  have d3 := T2.2.1.f0
  have d4 := T2.2.1.f1
  have d5 := T2.2.1.f2
  have T3 := T2.put1 hq x y b
  clear T2
  go_simp
  refine hK.out _ _ (⟨T3.2.2.2.c0, T3.2.2.2.c1, T3.2.2.2.c2⟩) (fun hHeld => ?_)
  clear hK K
  try simp only [Act.put, List.getElem_toArray, List.getElem_cons_succ, List.getElem_cons_zero, List.setIfInBounds_toArray, List.set_cons_zero, List.set_cons_succ]
  refine wpAnyH_ready (rs := [4]) (by kernel_rfl) (by simp) ?_
  refine AllReadyH.cons rfl (fun K hK => ?_) AllReadyH.nil
  have d0 := T3.2.2.1.c0
  have d1 := T3.2.2.1.c1
  have d2 := T3.2.2.1.c2
  have d3 := T3.2.2.1.f0
  have d4 := T3.2.2.1.f1
  have d5 := T3.2.2.1.f2
  have T4 := T3.put2 hq u v c
  clear T3
  go_simp
  refine hK.out _ _ (⟨T4.2.2.2.c0, T4.2.2.2.c1, T4.2.2.2.c2⟩) (fun hHeld => ?_)
  clear hK K
  try simp only [Act.put, List.getElem_toArray, List.getElem_cons_succ, List.getElem_cons_zero, List.setIfInBounds_toArray, List.set_cons_zero, List.set_cons_succ]
  refine wpAnyH_done (by kernel_rfl) ?_ _
  refine NoPanic.normal ?_
  have r0 := T4.2.1.c0
  have r1 := T4.2.1.c1
  have r2 := T4.2.1.c2
  have r3 := T4.2.2.1.c0
  have r4 := T4.2.2.1.c1
  have r5 := T4.2.2.1.c2
  have HT4 := Lib.hid T4.1
  clear T4
  go_wp2
  refine bodyPost_ret (v := .tuple #[.agg #[.int .i64 x, .int .i64 y, .bool b], .agg #[.int .i64 u, .int .i64 v, .bool c]]) ?_ rfl ⟨x, y, b, u, v, c, HD.out, HE.out, rfl, HT4.out⟩
  simp [results, Tryd.results6, go_sem, r0, r1, r2, r3, r4, r5]
end Go.Proofs.YtgoljloklhencaaDoor.DomD
