/- Cor, End, EdI in one text. -/
import Derived.Test.YtmajllgfmclcoaaGreatDoorMd18
import Derived.Test.YtmajllgfmclcoaaGreatDoorMd01
import Derived.Deep.RegionHeld3
import Derived.Deep.Cut
import Derived.Lib.Hide
import Derived.Test.YtmajllgfmclcoaaGreatDoorMd12
import Derived.Deep.DeepAppendRoom
set_option linter.unusedVariables false
set_option linter.unusedSimpArgs false
set_option maxRecDepth 100000
namespace Go.Proofs.YtmajllgfmclcoaaGreatDoor.Cor
open Go.RowKit Go.Proofs.YtmajllgfmclcoaaGreatDoor.Cell Dom Hgt Go.Joins
def AtC (W : World) (q : Nat) (x y : Int) : Prop := W.heap[q]? = some (.cells #[.int .i64 x, .int .i64 y] 96)
theorem AtC.on {W W' : World} {q : Nat} {x y : Int} (h : AtC W q x y) (hb : Below W.heap.size W W') : AtC W' q x y := (hb.block q (Array.getElem?_eq_some_iff.1 h).1).trans h
theorem AtC.c0 {W : World} {q : Nat} {x y : Int} (h : AtC W q x y) : W.cell? ⟨q, 0, none⟩ = some (.int .i64 x) := (cell_of_row _ _ 0 _ _ _ h).trans rfl
theorem AtC.c1 {W : World} {q : Nat} {x y : Int} (h : AtC W q x y) : W.cell? ⟨q, 1, none⟩ = some (.int .i64 y) := (cell_of_row _ _ 1 _ _ _ h).trans rfl
theorem AtC.lt {W : World} {q : Nat} {x y : Int} (h : AtC W q x y) : q < W.heap.size := (Array.getElem?_eq_some_iff.1 h).1
theorem AtC.new (W : World) (x y : Int) : AtC (W.alloc (.cells #[.int .i64 x, .int .i64 y] 96)) W.heap.size x y := heap_alloc_new W _
theorem AtC.drew {W : World} {q : Nat} {x y : Int} (h : AtC W q x y) : AtC W.drew q x y := h
theorem AtC.far {W : World} {p q i : Nat} {x y : Int} {v : Value} (h : AtC W q x y) (hp : q ≠ p) : AtC (W.setCell ⟨p, i, none⟩ v) q x y := (Below.heap_setCell W ⟨p, i, none⟩ v q hp).trans h
theorem AtC.far2 {W : World} {p q : Nat} {x y : Int} {u v : Value} (h : AtC W q x y) (hp : q ≠ p) : AtC ((W.setCell ⟨p, 0, none⟩ u).setCell ⟨p, 1, none⟩ v) q x y := (h.far hp).far hp
set_option maxHeartbeats 400000 in
theorem iInRange (x y : Int) (w : World) :
  Calls Tryz.prog 124 #[.agg #[.int .i64 x, .int .i64 y]] w (Bol (inC (x, y)) w) := by
 have H : ∀ (b : Bool) (W : World), (b = true ↔ 0 ≤ x ∧ x < 9 ∧ 0 ≤ y ∧ y < 9) → Below w.heap.size w W → Bol (inC (x, y)) w (.returned (.bool b)) W := fun b W h hb => mkBol (by rw [Bool.eq_iff_iff, inC_iff]; exact h) hb
 have HH := Lh H
 clear H
 go_enter Tryz.func124, Tryz.ntmps124
 go_wp2
 all_goals
  go_ret
  refine HH.out _ _ ?_ (below_alloc1 _ _)
  simp
  try omega
set_option maxHeartbeats 400000 in
theorem iIndex (x y : Int) (h : 0 ≤ x ∧ x ≤ 8 ∧ 0 ≤ y ∧ y ≤ 8) (w : World) :
  Calls Tryz.prog 83 #[.agg #[.int .i64 x, .int .i64 y]] w (Num (y * 9 + x) w) := by
 have H : ∀ (z : Int) (W : World), z = y * 9 + x → Below w.heap.size w W → Num (y * 9 + x) w (.returned (.int .i64 z)) W := fun z W e hb => ⟨by rw [e], hb⟩
 have HH := Lh H
 have HV := Lh h
 clear H h
 go_enter Tryz.func83, Tryz.ntmps83
 go_wp2
 go_ret
 refine HH.out _ _ ?_ (below_alloc1 _ _)
 have hv := HV.out
 first
 | rfl
 | (simp only [IntKind.wrap_i64]; unfold wrap64; omega)
 | (simp only [IntKind.wrap_i64]; omega)
 | (unfold wrap64; omega)
def CelP (x y : Int) (w : World) (e : Ending) (w' : World) : Prop := e = .returned (.agg #[.int .i64 x, .int .i64 y]) ∧ Below w.heap.size w w'
theorem at3_cor (w : World) (a b c d X Y : Int) (W : World) (e : W = ((w.alloc (.cells #[.int .i64 a, .int .i64 b] 96)).alloc (.cells #[.int .i64 c, .int .i64 d] 96)).alloc (.cells #[.int .i64 X, .int .i64 Y] 79)) :
  At2 W (w.heap.size + 1 + 1) X Y ∧ Below w.heap.size w W := by
 subst e
 refine ⟨?_, below_alloc3 w _ _ _⟩
 have k := At2.new ((w.alloc (.cells #[.int .i64 a, .int .i64 b] 96)).alloc (.cells #[.int .i64 c, .int .i64 d] 96)) X Y
 simpa using k
set_option maxHeartbeats 1000000 in
theorem iLeft (px py qx qy : Int) (hp : 0 ≤ px ∧ px ≤ 8 ∧ 0 ≤ py ∧ py ≤ 8) (hq : 0 ≤ qx ∧ qx ≤ 8 ∧ 0 ≤ qy ∧ qy ≤ 8) (w : World) :
  Calls Tryz.prog 125 #[.agg #[.int .i64 px, .int .i64 py], .agg #[.int .i64 qx, .int .i64 qy]] w (CelP (clX px py qx qy) (clY px py qx qy) w) := by
 have e1 : wrap64 (py - 1) = py - 1 := by unfold wrap64; omega
 have e2 : wrap64 (qx - 1) = qx - 1 := by unfold wrap64; omega
 have HX := Lh (show clX px py qx qy = if px < qx then px else if qx < px then qx else if py < qy then px else qx - 1 from rfl)
 have HY := Lh (show clY px py qx qy = if px < qx then py - 1 else if qx < px then qy else if py < qy then py else qy from rfl)
 generalize clX px py qx qy = m at HX ⊢
 generalize clY px py qx qy = n at HY ⊢
 clear hp hq
 by_cases h1 : px < qx
 ·obtain ⟨rfl, rfl⟩ : m = px ∧ n = py - 1 := by rw [HX.out, HY.out, if_pos h1, if_pos h1]; exact ⟨rfl, rfl⟩
  have K := Lh (at3_cor w m py qx qy m (py - 1) _ rfl)
  clear HX HY
  go_enter Tryz.func125, Tryz.ntmps125
  go_wp2
  have r0 := K.out.1.c0
  have r1 := K.out.1.c1
  refine bodyPost_ret (v := .agg #[.int .i64 m, .int .i64 (py - 1)]) ?_ rfl ⟨rfl, K.out.2⟩
  simp [results, Tryz.results125, go_sem, r0, r1]
 by_cases h2 : qx < px
 ·obtain ⟨rfl, rfl⟩ : m = qx ∧ n = qy := by rw [HX.out, HY.out, if_neg h1, if_neg h1, if_pos h2, if_pos h2]; exact ⟨rfl, rfl⟩
  have K := Lh (at3_cor w px py m n m n _ rfl)
  clear HX HY
  go_enter Tryz.func125, Tryz.ntmps125
  go_wp2
  have r0 := K.out.1.c0
  have r1 := K.out.1.c1
  refine bodyPost_ret (v := .agg #[.int .i64 m, .int .i64 n]) ?_ rfl ⟨rfl, K.out.2⟩
  simp [results, Tryz.results125, go_sem, r0, r1]
 by_cases h3 : py < qy
 ·obtain ⟨rfl, rfl⟩ : m = px ∧ n = py := by rw [HX.out, HY.out, if_neg h1, if_neg h1, if_neg h2, if_neg h2, if_pos h3, if_pos h3]; exact ⟨rfl, rfl⟩
  have K := Lh (at3_cor w m n qx qy m n _ rfl)
  clear HX HY
  go_enter Tryz.func125, Tryz.ntmps125
  go_wp2
  have r0 := K.out.1.c0
  have r1 := K.out.1.c1
  refine bodyPost_ret (v := .agg #[.int .i64 m, .int .i64 n]) ?_ rfl ⟨rfl, K.out.2⟩
  simp [results, Tryz.results125, go_sem, r0, r1]
 ·obtain ⟨rfl, rfl⟩ : m = qx - 1 ∧ n = qy := by rw [HX.out, HY.out, if_neg h1, if_neg h1, if_neg h2, if_neg h2, if_neg h3, if_neg h3]; exact ⟨rfl, rfl⟩
  have K := Lh (at3_cor w px py qx n (qx - 1) n _ rfl)
  clear HX HY
  go_enter Tryz.func125, Tryz.ntmps125
  go_wp2
  have r0 := K.out.1.c0
  have r1 := K.out.1.c1
  refine bodyPost_ret (v := .agg #[.int .i64 (qx - 1), .int .i64 n]) ?_ rfl ⟨rfl, K.out.2⟩
  simp [results, Tryz.results125, go_sem, r0, r1]
structure Fb (w : World) (a b c d m n u v : Int) (W : World) : Prop where
 bel : Below w.heap.size w W
 k1 : AtC W w.heap.size a b
 k2 : AtC W (w.heap.size + 1) c d
 k3 : At2 W (w.heap.size + 1 + 1) m n
 k4 : At2 W (w.heap.size + 1 + 1 + 1) u v
theorem fb_start (a b c d : Int) (w : World) : Fb w a b c d 0 0 0 0 ((((w.alloc (.cells #[.int .i64 a, .int .i64 b] 96)).alloc (.cells #[.int .i64 c, .int .i64 d] 96)).alloc (.cells #[.int .i64 0, .int .i64 0] 79)).alloc (.cells #[.int .i64 0, .int .i64 0] 79)) := by
 have h0 := AtC.new w a b
 have b0 := below_alloc1 w (.cells #[.int .i64 a, .int .i64 b] 96)
 have e0 : (w.alloc (.cells #[.int .i64 a, .int .i64 b] 96)).heap.size = w.heap.size + 1 := by simp
 generalize w.alloc (.cells #[.int .i64 a, .int .i64 b] 96) = W0 at h0 b0 e0 ⊢
 have h1 := AtC.new W0 c d
 have b1 := below_alloc1 W0 (.cells #[.int .i64 c, .int .i64 d] 96)
 have e1 : (W0.alloc (.cells #[.int .i64 c, .int .i64 d] 96)).heap.size = w.heap.size + 1 + 1 := by simp [e0]
 generalize W0.alloc (.cells #[.int .i64 c, .int .i64 d] 96) = W1 at h1 b1 e1 ⊢
 have h2 := At2.new W1 0 0
 have b2 := below_alloc1 W1 (.cells #[.int .i64 0, .int .i64 0] 79)
 have e2 : (W1.alloc (.cells #[.int .i64 0, .int .i64 0] 79)).heap.size = w.heap.size + 1 + 1 + 1 := by simp [e1]
 generalize W1.alloc (.cells #[.int .i64 0, .int .i64 0] 79) = W2 at h2 b2 e2 ⊢
 have h3 := At2.new W2 0 0
 have b3 := below_alloc1 W2 (.cells #[.int .i64 0, .int .i64 0] 79)
 generalize W2.alloc (.cells #[.int .i64 0, .int .i64 0] 79) = W3 at h3 b3 ⊢
 rw [e0] at h1
 rw [e1] at h2
 rw [e2] at h3
 exact ⟨((b0.trans (b1.mono (by omega))).trans (b2.mono (by omega))).trans (b3.mono (by omega)), ((h0.on b1).on b2).on b3, (h1.on b2).on b3, h2.on b3, h3⟩
section
variable {w W W' : World} {a b c d m n u v : Int}
theorem Fb.drew (h : Fb w a b c d m n u v W) : Fb w a b c d m n u v W.drew := ⟨h.bel.drew, h.k1, h.k2, h.k3, h.k4⟩
theorem Fb.on (h : Fb w a b c d m n u v W) (hb : Below W.heap.size W W') : Fb w a b c d m n u v W' := ⟨h.bel.trans (hb.mono h.bel.size), h.k1.on hb, h.k2.on hb, h.k3.on hb, h.k4.on hb⟩
theorem Fb.put1 (h : Fb w a b c d m n u v W) (x y : Int) : Fb w a b c d x y u v ((W.setCell ⟨w.heap.size + 1 + 1, 0, none⟩ (.int .i64 x)).setCell ⟨w.heap.size + 1 + 1, 1, none⟩ (.int .i64 y)) :=
 ⟨(h.bel.setCell (p := ⟨w.heap.size + 1 + 1, 0, none⟩) (by show w.heap.size ≤ w.heap.size + 1 + 1; omega) _).setCell (p := ⟨w.heap.size + 1 + 1, 1, none⟩) (by show w.heap.size ≤ w.heap.size + 1 + 1; omega) _, h.k1.far2 (by omega), h.k2.far2 (by omega), h.k3.put, h.k4.far2 (by omega)⟩
theorem Fb.put2 (h : Fb w a b c d m n u v W) (x y : Int) : Fb w a b c d m n x y ((W.setCell ⟨w.heap.size + 1 + 1 + 1, 0, none⟩ (.int .i64 x)).setCell ⟨w.heap.size + 1 + 1 + 1, 1, none⟩ (.int .i64 y)) :=
 ⟨(h.bel.setCell (p := ⟨w.heap.size + 1 + 1 + 1, 0, none⟩) (by show w.heap.size ≤ w.heap.size + 1 + 1 + 1; omega) _).setCell (p := ⟨w.heap.size + 1 + 1 + 1, 1, none⟩) (by show w.heap.size ≤ w.heap.size + 1 + 1 + 1; omega) _, h.k1.far2 (by omega), h.k2.far2 (by omega), h.k3.far2 (by omega), h.k4.put⟩
end
set_option maxHeartbeats 2000000 in
theorem iBeside (px py qx qy : Int) (hp : 0 ≤ px ∧ px ≤ 8 ∧ 0 ≤ py ∧ py ≤ 8) (hq : 0 ≤ qx ∧ qx ≤ 8 ∧ 0 ≤ qy ∧ qy ≤ 8) (w : World) :
  Calls Tryz.prog 103 #[.agg #[.int .i64 px, .int .i64 py], .agg #[.int .i64 qx, .int .i64 qy]] w (Cel2 (clX px py qx qy) (clY px py qx qy) (clX qx qy px py) (clY qx qy px py) w) := by
 have HL := Lh (fun W => iLeft px py qx qy hp hq W)
 have HR := Lh (fun W => iLeft qx qy px py hq hp W)
 generalize clX px py qx qy = m at HL ⊢
 generalize clY px py qx qy = n at HL ⊢
 generalize clX qx qy px py = u at HR ⊢
 generalize clY qx qy px py = v at HR ⊢
 have T0 := Lh (fb_start px py qx qy w)
 clear hp hq
 go_enter Tryz.func103, Tryz.ntmps103
 go_upto_region 1 with fail
 have T1 := T0.out.drew
 clear T0
 refine wp_region_noPanic ?_
 refine wp_region_held_drew (S := (fun w' => w'.cell? ⟨w.heap.size, 0, none⟩ = some (.int .i64 px) ∧ w'.cell? ⟨w.heap.size, 1, none⟩ = some (.int .i64 py) ∧ w'.cell? ⟨w.heap.size + 1, 0, none⟩ = some (.int .i64 qx) ∧ w'.cell? ⟨w.heap.size + 1, 1, none⟩ = some (.int .i64 qy))) (by kernel_rfl) (⟨T1.k1.c0, T1.k1.c1, T1.k2.c0, T1.k2.c1⟩) (fun hHeld => ?_)
 generalize World.drew _ = WR at T1 hHeld ⊢
 refine tk 0 ?_; try simp only [Act.put, zk]
 refine tk 1 ?_; try simp only [Act.put, zk]
 refine tk 3 ?_; try simp only [Act.put, zk]
 refine tk 4 ?_; try simp only [Act.put, zk]
 refine tr 2 fun K hK => ?_
 go_simp
 refine (HL.out _).mono ?_
 rintro e wx ⟨rfl, hbx⟩
 have T1 := T1.on hbx
 clear hbx
 go_wp2_with fail
 refine hK.out _ _ (⟨T1.k1.c0, T1.k1.c1, T1.k2.c0, T1.k2.c1⟩) (fun hHeld => ?_)
 clear hK K
 try simp only [Act.put, zk]
 refine tr 5 fun K hK => ?_
 go_simp
 refine (HR.out _).mono ?_
 rintro e wx ⟨rfl, hbx⟩
 have T1 := T1.on hbx
 clear hbx
 go_wp2_with fail
 refine hK.out _ _ (⟨T1.k1.c0, T1.k1.c1, T1.k2.c0, T1.k2.c1⟩) (fun hHeld => ?_)
 clear hK K
 try simp only [Act.put, zk]
 refine tr 6 fun K hK => ?_
 have c2 := T1.k3.f0
 have c3 := T1.k3.f1
 have c4 := T1.k3.c0
 have c5 := T1.k3.c1
 have T1 := T1.put1 m n
 go_simp
 refine hK.out _ _ (⟨T1.k1.c0, T1.k1.c1, T1.k2.c0, T1.k2.c1⟩) (fun hHeld => ?_)
 clear hK K
 try simp only [Act.put, zk]
 refine tr 7 fun K hK => ?_
 clear c2 c3 c4 c5
 have c2 := T1.k4.f0
 have c3 := T1.k4.f1
 have c4 := T1.k4.c0
 have c5 := T1.k4.c1
 have T1 := T1.put2 u v
 go_simp
 refine hK.out _ _ (⟨T1.k1.c0, T1.k1.c1, T1.k2.c0, T1.k2.c1⟩) (fun hHeld => ?_)
 clear hK K
 try simp only [Act.put, zk]
 refine wpAnyH_done (by kernel_rfl) (NoPanic.normal ?_) _
 clear hHeld c2 c3 c4 c5
 go_wp2
 have r0 := T1.k3.c0
 have r1 := T1.k3.c1
 have r2 := T1.k4.c0
 have r3 := T1.k4.c1
 refine bodyPost_ret (v := .tuple #[.agg #[.int .i64 m, .int .i64 n], .agg #[.int .i64 u, .int .i64 v]]) ?_ rfl (mkCel2 rfl rfl rfl rfl T1.bel)
 simp [results, Tryz.results103, go_sem, r0, r1, r2, r3]
end Go.Proofs.YtmajllgfmclcoaaGreatDoor.Cor
namespace Go.Proofs.YtmajllgfmclcoaaGreatDoor.Cor
open Go.RowKit Base Hgt Go.Joins
open Cels (rowC rowC_snoc rowC_length rowC_at)
open Reg (own_below own_base)
def EndP (L : List (Int × Int)) (w : World) (e : Ending) (w' : World) : Prop :=
  ∃ (A : Option Addr) (cap : Nat), e = .returned (.slice A L.length cap) ∧ w'.ownsRow w.heap.size 96 2 (.slice A L.length cap) L.length (rowC L) ∧ Below w.heap.size w w'
theorem corInfo : (Tryz.prog.info? 96).map (fun i => (i.zero, i.size, i.bytes)) = some (some (.agg #[.int .i64 0, .int .i64 0]), 2, 16) := by kernel_rfl
def endsT (x y : Int) (k : Nat) : List (Int × Int) := ((ends4 x y).take k).filter inC
theorem endsT_yes {x y u v : Int} {k : Nat} (h : (ends4 x y)[k]? = some (u, v)) (ho : inC (u, v) = true) : endsT x y (k + 1) = endsT x y k ++ [(u, v)] := by
  unfold endsT; rw [List.take_add_one, h, List.filter_append]; simp [ho]
theorem endsT_no {x y u v : Int} {k : Nat} (h : (ends4 x y)[k]? = some (u, v)) (ho : inC (u, v) = false) : endsT x y (k + 1) = endsT x y k := by
  unfold endsT; rw [List.take_add_one, h, List.filter_append]; simp [ho]
theorem endsT_le (x y : Int) (k : Nat) : (endsT x y k).length ≤ 4 := by
  unfold endsT
  exact Nat.le_trans (List.length_filter_le _ _) (by rw [List.length_take]; exact Nat.min_le_right _ _)
def arr4 (x y : Int) : Array Value := #[.int .i64 x, .int .i64 (y - 1), .int .i64 (x - 1), .int .i64 y, .int .i64 (x + 1), .int .i64 y, .int .i64 x, .int .i64 (y + 1)]
theorem arr_cells {W : World} {g : Nat} {x y : Int} (h : W.heap[g]? = some (.cells (arr4 x y) 134 (0, 0))) :
    W.cell? ⟨g, 0, none⟩ = some (.int .i64 x) ∧ W.cell? ⟨g, 1, none⟩ = some (.int .i64 (y - 1)) ∧ W.cell? ⟨g, 2, none⟩ = some (.int .i64 (x - 1)) ∧ W.cell? ⟨g, 3, none⟩ = some (.int .i64 y) ∧
    W.cell? ⟨g, 4, none⟩ = some (.int .i64 (x + 1)) ∧ W.cell? ⟨g, 5, none⟩ = some (.int .i64 y) ∧ W.cell? ⟨g, 6, none⟩ = some (.int .i64 x) ∧ W.cell? ⟨g, 7, none⟩ = some (.int .i64 (y + 1)) :=
  ⟨(cell_of_row _ _ 0 _ _ _ h).trans rfl, (cell_of_row _ _ 1 _ _ _ h).trans rfl, (cell_of_row _ _ 2 _ _ _ h).trans rfl, (cell_of_row _ _ 3 _ _ _ h).trans rfl,
   (cell_of_row _ _ 4 _ _ _ h).trans rfl, (cell_of_row _ _ 5 _ _ _ h).trans rfl, (cell_of_row _ _ 6 _ _ _ h).trans rfl, (cell_of_row _ _ 7 _ _ _ h).trans rfl⟩
theorem arr_at (x y : Int) {k : Nat} {u v : Int} (h : (ends4 x y)[k]? = some (u, v)) (w : World) : (Instr.index 134 (.agg #[.int .i64 x, .int .i64 (y - 1), .int .i64 (x - 1), .int .i64 y, .int .i64 (x + 1), .int .i64 y, .int .i64 x, .int .i64 (y + 1)]) (.int .i64 (k : Int))).run Tryz.prog w = .ok (.agg #[.int .i64 u, .int .i64 v]) w := by
  have a0 : ∀ a b c d e f g h : Int, (Instr.index 134 (.agg #[.int .i64 a, .int .i64 b, .int .i64 c, .int .i64 d, .int .i64 e, .int .i64 f, .int .i64 g, .int .i64 h]) (.int .i64 ((0 : Nat) : Int))).run Tryz.prog w = .ok (.agg #[.int .i64 a, .int .i64 b]) w := fun a b c d e f g h => by kernel_rfl
  have a1 : ∀ a b c d e f g h : Int, (Instr.index 134 (.agg #[.int .i64 a, .int .i64 b, .int .i64 c, .int .i64 d, .int .i64 e, .int .i64 f, .int .i64 g, .int .i64 h]) (.int .i64 ((1 : Nat) : Int))).run Tryz.prog w = .ok (.agg #[.int .i64 c, .int .i64 d]) w := fun a b c d e f g h => by kernel_rfl
  have a2 : ∀ a b c d e f g h : Int, (Instr.index 134 (.agg #[.int .i64 a, .int .i64 b, .int .i64 c, .int .i64 d, .int .i64 e, .int .i64 f, .int .i64 g, .int .i64 h]) (.int .i64 ((2 : Nat) : Int))).run Tryz.prog w = .ok (.agg #[.int .i64 e, .int .i64 f]) w := fun a b c d e f g h => by kernel_rfl
  have a3 : ∀ a b c d e f g h : Int, (Instr.index 134 (.agg #[.int .i64 a, .int .i64 b, .int .i64 c, .int .i64 d, .int .i64 e, .int .i64 f, .int .i64 g, .int .i64 h]) (.int .i64 ((3 : Nat) : Int))).run Tryz.prog w = .ok (.agg #[.int .i64 g, .int .i64 h]) w := fun a b c d e f g h => by kernel_rfl
  unfold ends4 at h
  rcases k with _ | _ | _ | _ | k
  · simp at h; obtain ⟨rfl, rfl⟩ := h; exact a0 _ _ _ _ _ _ _ _
  · simp at h; obtain ⟨rfl, rfl⟩ := h; exact a1 _ _ _ _ _ _ _ _
  · simp at h; obtain ⟨rfl, rfl⟩ := h; exact a2 _ _ _ _ _ _ _ _
  · simp at h; obtain ⟨rfl, rfl⟩ := h; exact a3 _ _ _ _ _ _ _ _
  · simp at h
theorem ends_at (x y : Int) {k : Nat} (h : k < 4) : ∃ u v, (ends4 x y)[k]? = some (u, v) := by
  have : k < (ends4 x y).length := h
  exact ⟨_, _, List.getElem?_eq_getElem this⟩
theorem arr_start (w : World) (x y : Int) (W : World) (e : W = (w.alloc (.cells #[.int .i64 x, .int .i64 y] 96)).alloc (.cells (arr4 x y) 134)) :
    Below w.heap.size w W ∧ W.heap[w.heap.size + 1]? = some (.cells (arr4 x y) 134 (0, 0)) := by
  subst e
  refine ⟨below_alloc2 w _ _, ?_⟩
  have k := heap_alloc_new (w.alloc (.cells #[.int .i64 x, .int .i64 y] 96)) (.cells (arr4 x y) 134)
  simpa using k
set_option maxHeartbeats 4000000 in
theorem iEnds (x y : Int) (h : 0 ≤ x ∧ x ≤ 8 ∧ 0 ≤ y ∧ y ≤ 8) (w : World) : Calls Tryz.prog 102 #[.agg #[.int .i64 x, .int .i64 y]] w (EndP (endsP x y) w) := by
  obtain ⟨i0, hi, hz0, hz1, hz2⟩ := info_parts corInfo
  have e1 : wrap64 (y - 1) = y - 1 := by unfold wrap64; omega
  have e2 : wrap64 (x - 1) = x - 1 := by unfold wrap64; omega
  have e3 : wrap64 (x + 1) = x + 1 := by unfold wrap64; omega
  have e4 : wrap64 (y + 1) = y + 1 := by unfold wrap64; omega
  clear h
  have HS := Lh (arr_start w x y _ rfl)
  unfold arr4 at HS
  go_enter Tryz.func102, Tryz.ntmps102
  go_upto_region 2 with fail
  obtain ⟨hb1, hA⟩ := HS.out
  clear HS
  generalize (w.alloc _).alloc _ = W1 at hb1 hA ⊢
  have HA := Lh (show W1.heap[w.heap.size + 1]? = some (.cells (arr4 x y) 134 (0, 0)) from hA)
  have hgs := (Array.getElem?_eq_some_iff.1 hA).1
  have hW1 : w.heap.size ≤ W1.heap.size := hb1.size
  clear hA e1 e2 e3 e4
  go_wp2_with (first
    | (at_make; refine wpList_make_own _ rfl _ _ 115 rfl w.heap.size 96 i0 (.agg #[.int .i64 0, .int .i64 0]) 2 Tryz.underlying115 hi hz0 hz1 .i64 .i64 4 4 rfl rfl (by omega) (by rw [hz2]; omega) (by unfold maxLen; omega) (by omega) ?_; intro w3 hown3 hg3; obtain ⟨q0, q1, q2, q3, q4, q5, q6, q7⟩ := arr_cells ((hg3.block (w.heap.size + 1) hgs (by simp)).trans HA.out)))
  have hb3 : Below w.heap.size w w3 := hb1.grown hg3 (by omega) (by simp)
  have HO := Lh hown3
  clear q0 q1 q2 q3 q4 q5 q6 q7 hown3 hg3 HA hb1 hW1 hgs
  go_loopw [4, 34] (fun v i wr => ∃ k : Nat, k ≤ 4 ∧ i = .int .i64 k ∧ wr.ownsRow w.heap.size 96 2 v (endsT x y k).length (rowC (endsT x y k)) ∧ Below w.heap.size w wr) (fun _ i _ => 4 - (intOf i).toNat)
  case atStart => exact ⟨0, Nat.zero_le _, rfl, HO.out, hb3⟩
  case round =>
    clear HO hb3
    obtain ⟨k, hk, rfl, hown, hb⟩ := hrel
    have hbs := hb.size
    by_cases hlt : k < 4
    · obtain ⟨u, v', hq⟩ := ends_at x y hlt
      have hix := arr_at x y hq
      have HQ := Lh hq
      have hkI : (k : Int) < 4 := by omega
      clear hq
      go_wp2_with fail
      refine (iInRange u v' _).mono ?_
      rintro e w2 ⟨rfl, hb2⟩
      clear hix
      have hbx := below_alloc1 wr (.cells #[.int .i64 u, .int .i64 v'] 96)
      have hE : Below wr.heap.size wr w2 := hbx.trans (hb2.mono (by simp))
      have hN := (AtC.new wr u v').on hb2
      have c0 := hN.c0
      have c1 := hN.c1
      have HD := Lh (hb.trans (hE.mono hbs))
      have HOwn2 := Lh (own_below hown hE NR)
      have hzz : wr.heap.size < w2.heap.size := hN.lt
      clear hE hb2 hown hb hbx hN
      cases hn : inC (u, v') with
      | false =>
        have HN := Lh (endsT_no HQ.out hn)
        clear hn
        go_wp2
        go_roundw
        case rel => exact ⟨k + 1, by omega, by go_num, by rw [HN.out]; exact HOwn2.out, HD.out⟩
        case measure => (simp [intOf] <;> omega)
      | true =>
        have HN := Lh (endsT_yes HQ.out hn)
        have HL := Lh (endsT_le x y k)
        clear hn
        go_wp2_with (first
          | (at_builtin; refine wpList_append_own _ rfl _ _ 115 rfl w.heap.size 96 i0 (.agg #[.int .i64 0, .int .i64 0]) 2 16 Tryz.underlying115 hi hz0 hz1 hz2 rfl (by decide) _ (endsT x y k).length (rowC (endsT x y k)) rfl (HOwn2.out.alloc _) ⟨w2.heap.size, 0, none⟩ 1 1 [.int .i64 u, .int .i64 v'] rfl rfl (World.news_of_block (cs := #[.int .i64 u, .int .i64 v']) (t := 96) (fr := (0, 0)) (heap_alloc_new w2 _)) (by simp [Value.oneCell']) (by have := HL.out; unfold maxLen; omega) (by have := HL.out; omega) (by simp; omega) ?_; intro v2 w3 hown3 hgrow _))
        have hb3 : Below w.heap.size w w3 := (HD.out.alloc (by omega) _).grown hgrow (by simp; omega) (fun g hg => (HOwn2.out.lt g hg).1)
        have R := Lh (show w3.ownsRow w.heap.size 96 2 v2 (endsT x y (k + 1)).length (rowC (endsT x y (k + 1))) by
          rw [HN.out, rowC_snoc, List.length_append]; exact hown3)
        clear hown3 hgrow
        go_wp2
        go_roundw
        case rel => exact ⟨k + 1, by omega, by go_num, R.out, hb3⟩
        case measure => (simp [intOf] <;> omega)
    · obtain rfl : k = 4 := by omega
      obtain ⟨A, cap, rfl⟩ := own_shape hown
      have HOwn := Lh hown
      clear hown
      rw [show ((4 : Nat) : Int) = 4 from rfl]
      go_wp2
      go_ret
      exact ⟨A, cap, rfl, HOwn.out, hb⟩
end Go.Proofs.YtmajllgfmclcoaaGreatDoor.Cor
namespace Go.Proofs.YtmajllgfmclcoaaGreatDoor.Cor
open Go.RowKit Go.Proofs.YtmajllgfmclcoaaGreatDoor.Cell Hgt Go.Joins
open Cels (rowC RowC rowC_own)
def Cb (w : World) (x y : Int) (W : World) : Prop := Below w.heap.size w W ∧ AtC W w.heap.size x y
theorem cb_start (x y : Int) (w : World) : Cb w x y (w.alloc (.cells #[.int .i64 x, .int .i64 y] 96)) := ⟨below_alloc1 w _, AtC.new w x y⟩
theorem Cb.on {w W W' : World} {x y : Int} (h : Cb w x y W) (hb : Below W.heap.size W W') : Cb w x y W' := ⟨h.1.trans (hb.mono h.1.size), h.2.on hb⟩
def HasC (L : List (Int × Int)) (c : Int × Int) (w : World) (e : Ending) (w' : World) : Prop := ∃ r : Int, e = .returned (.int .i64 r) ∧ decide (0 ≤ r) = decide (c ∈ L) ∧ Below w.heap.size w w'
theorem mkHasC {L : List (Int × Int)} {c : Int × Int} {w W : World} {r : Int} (h : decide (0 ≤ r) = decide (c ∈ L)) (hb : Below w.heap.size w W) : HasC L c w (.returned (.int .i64 r)) W := ⟨r, rfl, h, hb⟩
theorem takeC_no {L : List (Int × Int)} {c : Int × Int} {k : Nat} (hk : k < L.length) (h : c ∉ L.take k) (hne : L[k] ≠ c) : c ∉ L.take (k + 1) := by
 rw [List.take_succ_eq_append_getElem hk]
 intro q
 rcases List.mem_append.1 q with q | q
 ·exact h q
 ·exact hne (List.mem_singleton.1 q).symm
set_option maxHeartbeats 2000000 in
theorem iIndexC (w : World) (A : Option Addr) (n cap : Nat) (L : List (Int × Int)) (hL : L.length = n) (hn : n ≤ 1000) (h : RowC w A L) (x y : Int) :
  Calls Tryz.prog 150 #[.slice A n cap, .agg #[.int .i64 x, .int .i64 y]] w (HasC L (x, y) w) := by
 obtain ⟨b, off, hA, hc⟩ := h
 have HA := Lh hA
 have HC := Lh hc
 have HL := Lh hL
 have T0 := Lh (cb_start x y w)
 clear hA hc hL
 go_enter Tryz.func150, Tryz.ntmps150
 go_wp2_with fail
 go_loopw [5, 8] (fun _ i wr => ∃ k : Nat, k ≤ n ∧ i = .int .i64 k ∧ Cb w x y wr ∧ Hid ((x, y) ∉ L.take k)) (fun _ i _ => n - (intOf i).toNat)
 case atStart => exact ⟨0, Nat.zero_le _, rfl, T0.out, Lh (by simp)⟩
 case round =>
  clear T0
  obtain ⟨k, hk, rfl, hK, HN⟩ := hrel
  by_cases hlt : k < n
  ·have hkL : k < L.length := by rw [HL.out]; exact hlt
   obtain ⟨rfl, hbB⟩ := HA.out (by omega)
   obtain ⟨e0, e1⟩ := HC.out k L[k] (List.getElem?_eq_getElem hkL)
   have d0 := (hK.1.cell (p := ⟨b, off + k * 2, none⟩) (by show b < _; omega)).trans e0
   have d1 := (hK.1.cell (p := ⟨b, off + k * 2 + 1, none⟩) (by show b < _; omega)).trans e1
   have c0 := AtC.c0 hK.2
   have c1 := AtC.c1 hK.2
   have HX := Lh (fun hne => takeC_no hkL HN.out hne)
   have HIn := Lh (fun (he : L[k] = (x, y)) => show (x, y) ∈ L from he ▸ List.getElem_mem hkL)
   generalize L[k] = p at d0 d1 HX HIn
   obtain ⟨u, v⟩ := p
   simp only at d0 d1
   have HK := Lh hK
   clear e0 e1 HN hK
   by_cases q : u = x ∧ v = y
   ·obtain ⟨rfl, rfl⟩ := q
    have HI := Lh (HIn.out rfl)
    clear HX HIn
    have huu : (u == u) = true := by simp
    have hvv : (v == v) = true := by simp
    go_wp2_with fail
    go_quiet (fail)
    go_wp2
    go_ret
    exact mkHasC (by rw [decide_eq_true HI.out]; exact decide_eq_true (by omega)) (drewBelow HK.out.1 _)
   ·have HY := Lh (HX.out (fun e => by injection e with e1 e2; exact q ⟨e1, e2⟩))
    clear HX HIn
    by_cases q1 : u = x
    ·subst q1
     have huu : (u == u) = true := by simp
     have hvf : (y == v) = false := by rw [beq_eq_false_iff_ne]; exact fun e => q ⟨rfl, e.symm⟩
     clear q
     go_wp2_with fail
     go_quiet (fail)
     go_wp2
     go_roundw
     case rel => exact ⟨k + 1, by omega, by go_num, HK.out.on (drewBelow (Below.refl _ _) _), HY⟩
     case measure => (simp [intOf] <;> omega)
    ·have huf : (x == u) = false := by rw [beq_eq_false_iff_ne]; exact fun e => q1 e.symm
     clear q
     go_wp2_with fail
     go_quiet (fail)
     go_wp2
     go_roundw
     case rel => exact ⟨k + 1, by omega, by go_num, HK.out.on (drewBelow (Below.refl _ _) _), HY⟩
     case measure => (simp [intOf] <;> omega)
  ·obtain rfl : k = n := by omega
   have HF := Lh (show (x, y) ∉ L from fun q => HN.out (by rw [← HL.out, List.take_length]; exact q))
   have HK := Lh hK.1
   clear hK HN
   go_wp2
   go_ret
   exact mkHasC (by rw [decide_eq_false HF.out]; exact decide_eq_false (by omega)) HK.out
theorem iContainsC (w : World) (A : Option Addr) (n cap : Nat) (L : List (Int × Int)) (hL : L.length = n) (hn : n ≤ 1000) (h : RowC w A L) (x y : Int) :
  Calls Tryz.prog 140 #[.slice A n cap, .agg #[.int .i64 x, .int .i64 y]] w (Bol (decide ((x, y) ∈ L)) w) := by
 have T0 := Lh (cb_start x y w)
 have HI := Lh (fun W (hb : Below w.heap.size w W) => iIndexC W A n cap L hL hn (by
  obtain ⟨b, off, h1, h2⟩ := h
  refine ⟨b, off, fun hl => ⟨(h1 hl).1, Nat.lt_of_lt_of_le (h1 hl).2 hb.size⟩, fun j p hp => ?_⟩
  have hl : 0 < L.length := by have := (List.getElem?_eq_some_iff.1 hp).1; omega
  rw [hb.cell (p := ⟨b, off + j * 2, none⟩) (h1 hl).2, hb.cell (p := ⟨b, off + j * 2 + 1, none⟩) (h1 hl).2]
  exact h2 j p hp) x y)
 clear hL hn h
 go_enter Tryz.func140, Tryz.ntmps140
 go_wp2_with fail
 refine (HI.out _ T0.out.1).mono ?_
 rintro e w1 ⟨r, rfl, hr, hb1⟩
 have HB := Lh (T0.out.on hb1).1
 have HR := Lh hr
 clear HI T0 hb1 hr
 go_wp2
 go_ret
 exact mkBol (by rw [← HR.out]) HB.out
structure Tc (w : World) (a b c d : Int) (W : World) : Prop where
 bel : Below w.heap.size w W
 k1 : AtC W w.heap.size a b
 k2 : AtC W (w.heap.size + 1) c d
theorem tc_start (a b c d : Int) (w : World) : Tc w a b c d ((w.alloc (.cells #[.int .i64 a, .int .i64 b] 96)).alloc (.cells #[.int .i64 c, .int .i64 d] 96)) := by
 have h0 := AtC.new w a b
 have b0 := below_alloc1 w (.cells #[.int .i64 a, .int .i64 b] 96)
 have e0 : (w.alloc (.cells #[.int .i64 a, .int .i64 b] 96)).heap.size = w.heap.size + 1 := by simp
 generalize w.alloc (.cells #[.int .i64 a, .int .i64 b] 96) = W0 at h0 b0 e0 ⊢
 have h1 := AtC.new W0 c d
 have b1 := below_alloc1 W0 (.cells #[.int .i64 c, .int .i64 d] 96)
 rw [e0] at h1
 exact ⟨b0.trans (b1.mono (by omega)), h0.on b1, h1⟩
theorem Tc.drew {w W : World} {a b c d : Int} (h : Tc w a b c d W) : Tc w a b c d W.drew := ⟨h.bel.drew, h.k1, h.k2⟩
theorem Tc.on {w W W' : World} {a b c d : Int} (h : Tc w a b c d W) (hb : Below W.heap.size W W') : Tc w a b c d W' := ⟨h.bel.trans (hb.mono h.bel.size), h.k1.on hb, h.k2.on hb⟩
theorem step_in {ax ay bx by' : Int} (ha : 0 ≤ ax ∧ ax ≤ 8 ∧ 0 ≤ ay ∧ ay ≤ 8) (h : (bx, by') ∈ endsP ax ay) : (0 ≤ bx ∧ bx ≤ 8 ∧ 0 ≤ by' ∧ by' ≤ 8) ∧ (-1 ≤ clX ax ay bx by' ∧ clX ax ay bx by' ≤ 8 ∧ -1 ≤ clY ax ay bx by' ∧ clY ax ay bx by' ≤ 8) ∧ stepE ax ay bx by' = sgnE (clX ax ay bx by' + clY ax ay bx by') := by
 obtain ⟨hin, d, hd, e3, e4⟩ := ends_dir h
 simp only at hin e3 e4
 have h4 : d = 0 ∨ d = 1 ∨ d = 2 ∨ d = 3 := by omega
 rcases h4 with rfl | rfl | rfl | rfl
 ·have a : bx = ax + 1 := e3
  have b : by' = ay := by rw [e4]; show ay + 0 = ay; omega
  subst a b
  have c1 : clX ax by' (ax + 1) by' = ax := by unfold clX; rw [if_pos (by omega)]
  have c2 : clY ax by' (ax + 1) by' = by' - 1 := by unfold clY; rw [if_pos (by omega)]
  have s : stepE ax by' (ax + 1) by' = sgnE (ax + (by' - 1)) := by unfold stepE; rw [if_pos (by omega), if_pos ⟨rfl, rfl⟩]
  rw [c1, c2, s]
  exact ⟨by omega, by omega, rfl⟩
 ·have a : bx = ax := by rw [e3]; show ax + 0 = ax; omega
  have b : by' = ay + 1 := e4
  subst a b
  have c1 : clX bx ay bx (ay + 1) = bx := by unfold clX; rw [if_neg (by omega), if_neg (by omega), if_pos (by omega)]
  have c2 : clY bx ay bx (ay + 1) = ay := by unfold clY; rw [if_neg (by omega), if_neg (by omega), if_pos (by omega)]
  have s : stepE bx ay bx (ay + 1) = sgnE (bx + ay) := by unfold stepE; rw [if_pos (by omega), if_neg (by omega), if_neg (by omega), if_pos (by omega)]
  rw [c1, c2, s]
  exact ⟨by omega, by omega, rfl⟩
 ·have a : bx = ax - 1 := e3
  have b : by' = ay := by rw [e4]; show ay + 0 = ay; omega
  subst a b
  have c1 : clX ax by' (ax - 1) by' = ax - 1 := by unfold clX; rw [if_neg (by omega), if_pos (by omega)]
  have c2 : clY ax by' (ax - 1) by' = by' := by unfold clY; rw [if_neg (by omega), if_pos (by omega)]
  have s : stepE ax by' (ax - 1) by' = sgnE (ax - 1 + by') := by unfold stepE; rw [if_pos (by omega), if_neg (by omega), if_pos (by omega)]
  rw [c1, c2, s]
  exact ⟨by omega, by omega, rfl⟩
 ·have a : bx = ax := by rw [e3]; show ax + 0 = ax; omega
  have b : by' = ay - 1 := e4
  subst a b
  have c1 : clX bx ay bx (ay - 1) = bx - 1 := by unfold clX; rw [if_neg (by omega), if_neg (by omega), if_neg (by omega)]
  have c2 : clY bx ay bx (ay - 1) = ay - 1 := by unfold clY; rw [if_neg (by omega), if_neg (by omega), if_neg (by omega)]
  have s : stepE bx ay bx (ay - 1) = sgnE (bx - 1 + (ay - 1)) := by unfold stepE; rw [if_pos (by omega), if_neg (by omega), if_neg (by omega), if_neg (by omega), if_pos (by omega)]
  rw [c1, c2, s]
  exact ⟨by omega, by omega, rfl⟩
theorem step_no {ax ay bx by' : Int} (ha : 0 ≤ ax ∧ ax ≤ 8 ∧ 0 ≤ ay ∧ ay ≤ 8) (h : (bx, by') ∉ endsP ax ay) : stepE ax ay bx by' = 0 := by
 unfold stepE
 split
 ·rename_i hin
  have key : ¬ ((bx = ax ∧ by' = ay - 1) ∨ (bx = ax - 1 ∧ by' = ay) ∨ (bx = ax + 1 ∧ by' = ay) ∨ (bx = ax ∧ by' = ay + 1)) := fun q => h (by
   unfold endsP
   refine List.mem_filter.2 ⟨?_, inC_iff.2 (by simp only; omega)⟩
   unfold ends4
   simp only [List.mem_cons, List.not_mem_nil, or_false, Prod.mk.injEq]
   exact q)
  rw [if_neg (by omega), if_neg (by omega), if_neg (by omega), if_neg (by omega)]
 ·rfl
set_option maxHeartbeats 2000000 in
theorem iEdge (ax ay bx by' : Int) (w : World) :
  Calls Tryz.prog 120 #[.int .i64 ax, .int .i64 ay, .int .i64 bx, .int .i64 by'] w (Num (stepE ax ay bx by') w) := by
 have T0 := Lh (tc_start ax ay bx by' w)
 have HIn := Lh (fun W => iInRange ax ay W)
 by_cases hr : 0 ≤ ax ∧ ax ≤ 8 ∧ 0 ≤ ay ∧ ay ≤ 8
 rotate_left
 ·have hf : inC (ax, ay) = false := by rw [Bool.eq_false_iff]; intro q; have := inC_iff.1 q; simp only at this; omega
  have HE := Lh (step_out (ax := ax) (ay := ay) (bx := bx) (by' := by') (by omega))
  rw [hf] at HIn
  clear hr hf
  go_enter Tryz.func120, Tryz.ntmps120
  go_upto_region 2 with fail
  have T1 := T0.out.drew
  clear T0
  refine wp_region_noPanic ?_
  refine wp_region_held_drew (S := (fun w' => w'.cell? ⟨w.heap.size, 0, none⟩ = some (.int .i64 ax) ∧ w'.cell? ⟨w.heap.size, 1, none⟩ = some (.int .i64 ay))) (by kernel_rfl) (⟨T1.k1.c0, T1.k1.c1⟩) (fun hHeld => ?_)
  generalize World.drew _ = WR at T1 hHeld ⊢
  refine tk 0 ?_; try simp only [Act.put, zk]
  refine tr 1 fun K hK => ?_
  go_simp
  refine (HIn.out _).mono ?_
  rintro e wx ⟨rfl, hbx⟩
  have T1 := T1.on hbx
  clear hbx
  go_wp2_with fail
  refine hK.out _ _ (⟨T1.k1.c0, T1.k1.c1⟩) (fun hHeld => ?_)
  clear hK K
  try simp only [Act.put, zk]
  refine tk 2 ?_; try simp only [Act.put, zk]
  refine tk 3 ?_; try simp only [Act.put, zk]
  refine tu 4 ?_; try simp only [Act.put, zk]
  refine tu 5 ?_; try simp only [Act.put, zk]
  refine tu 6 ?_; try simp only [Act.put, zk]
  refine tu 7 ?_; try simp only [Act.put, zk]
  refine tu 8 ?_; try simp only [Act.put, zk]
  refine tk 9 ?_; try simp only [Act.put, zk]
  refine wpAnyH_done (by kernel_rfl) (NoPanic.normal ?_) _
  clear hHeld
  go_wp2
  go_ret
  exact ⟨by rw [HE.out]; rfl, T1.bel⟩
 ·have hf : inC (ax, ay) = true := inC_iff.2 (by simp only; omega)
  have HEn := Lh (fun W => iEnds ax ay hr W)
  have HIns := Lh (fun h => step_in (bx := bx) (by' := by') hr h)
  have HNo := Lh (fun h => step_no (bx := bx) (by' := by') hr h)
  have HLe := Lh (fun (hb : 0 ≤ bx ∧ bx ≤ 8 ∧ 0 ≤ by' ∧ by' ≤ 8) W => iLeft ax ay bx by' hr hb W)
  have HLn := Lh (ends_le ax ay)
  rw [hf] at HIn
  clear hr hf
  go_enter Tryz.func120, Tryz.ntmps120
  go_upto_region 2 with fail
  have T1 := T0.out.drew
  clear T0
  refine wp_region_noPanic ?_
  refine wp_region_held_drew (S := (fun w' => w'.cell? ⟨w.heap.size, 0, none⟩ = some (.int .i64 ax) ∧ w'.cell? ⟨w.heap.size, 1, none⟩ = some (.int .i64 ay) ∧ w'.cell? ⟨w.heap.size + 1, 0, none⟩ = some (.int .i64 bx) ∧ w'.cell? ⟨w.heap.size + 1, 1, none⟩ = some (.int .i64 by'))) (by kernel_rfl) (⟨T1.k1.c0, T1.k1.c1, T1.k2.c0, T1.k2.c1⟩) (fun hHeld => ?_)
  generalize World.drew _ = WR at T1 hHeld ⊢
  refine tk 0 ?_; try simp only [Act.put, zk]
  refine tr 1 fun K hK => ?_
  go_simp
  refine (HIn.out _).mono ?_
  rintro e wx ⟨rfl, hbx⟩
  have T1 := T1.on hbx
  clear hbx
  go_wp2_with fail
  refine hK.out _ _ (⟨T1.k1.c0, T1.k1.c1, T1.k2.c0, T1.k2.c1⟩) (fun hHeld => ?_)
  clear hK K
  try simp only [Act.put, zk]
  refine tk 2 ?_; try simp only [Act.put, zk]
  refine tk 3 ?_; try simp only [Act.put, zk]
  refine tk 4 ?_; try simp only [Act.put, zk]
  refine tk 6 ?_; try simp only [Act.put, zk]
  refine tr 5 fun K hK => ?_
  go_simp
  refine (HEn.out _).mono ?_
  rintro e wx ⟨A2, cap2, rfl, hown, hbx⟩
  have T1 := T1.on hbx
  have hct := iContainsC wx A2 (endsP ax ay).length cap2 (endsP ax ay) rfl (by have := HLn.out; omega) (rowC_own hown) bx by'
  have HCt := Lh hct
  generalize hm : (endsP ax ay).length = m at HCt ⊢
  clear hbx hown hct
  go_wp2_with fail
  refine hK.out _ _ (⟨T1.k1.c0, T1.k1.c1, T1.k2.c0, T1.k2.c1⟩) (fun hHeld => ?_)
  clear hK K
  try simp only [Act.put, zk]
  refine tr 7 fun K hK => ?_
  go_simp
  refine (HCt.out).mono ?_
  rintro e wx ⟨rfl, hbx⟩
  have T1 := T1.on hbx
  clear hbx
  go_wp2_with fail
  refine hK.out _ _ (⟨T1.k1.c0, T1.k1.c1, T1.k2.c0, T1.k2.c1⟩) (fun hHeld => ?_)
  clear hK K
  try simp only [Act.put, zk]
  refine tk 8 ?_; try simp only [Act.put, zk]
  refine tk 9 ?_; try simp only [Act.put, zk]
  refine wpAnyH_done (by kernel_rfl) (NoPanic.normal ?_) _
  clear hHeld HCt
  by_cases hin : (bx, by') ∈ endsP ax ay
  ·obtain ⟨hb, hc, hs⟩ := HIns.out hin
   have HL := Lh (fun W => HLe.out hb W)
   rw [decide_eq_true hin]
   have HSt := Lh hs
   have c0 := T1.k1.c0
   have c1 := T1.k1.c1
   have c2 := T1.k2.c0
   have c3 := T1.k2.c1
   clear HIns HNo HLe hm HLn hs hb hin HEn HIn
   generalize clX ax ay bx by' = m' at HL hc HSt
   generalize clY ax ay bx by' = n' at HL hc HSt
   have e1 : wrap64 (m' + n') = m' + n' := by unfold wrap64; omega
   have HT := Lh (show (m' + n').tmod 2 = 0 ↔ (m' + n') % 2 = 0 by
    by_cases h : 0 ≤ m' + n'
    ·rw [Int.tmod_eq_emod_of_nonneg h]
    ·have : m' + n' = -1 ∨ m' + n' = -2 := by omega
     rcases this with e | e <;> rw [e] <;> decide)
   clear hc
   go_wp2_with fail
   refine (HL.out _).mono ?_
   rintro e w2 ⟨rfl, hb2⟩
   have T2 := T1.on hb2
   have hbx := below_alloc1 w2 (.cells #[.int .i64 m', .int .i64 n'] 79)
   have HB3 := Lh (T2.on hbx).bel
   clear T1 T2 hb2 hbx c0 c1 c2 c3 HL
   by_cases hev : (m' + n').tmod 2 = 0
   ·have hev2 : ((m' + n').tmod 2 == 0) = true := by simpa using hev
    have HS := Lh (show stepE ax ay bx by' = 1 by rw [HSt.out]; unfold sgnE; rw [if_pos (HT.out.1 hev)])
    clear hev
    go_wp2
    go_ret
    exact ⟨by rw [HS.out]; rfl, HB3.out⟩
   ·have hev2 : ((m' + n').tmod 2 == 0) = false := by simpa using hev
    have HS := Lh (show stepE ax ay bx by' = -1 by rw [HSt.out]; unfold sgnE; rw [if_neg (fun q => hev (HT.out.2 q))])
    clear hev
    go_wp2
    go_ret
    exact ⟨by rw [HS.out]; rfl, HB3.out⟩
  ·have HE := Lh (HNo.out hin)
   rw [decide_eq_false hin]
   clear HIns HNo HLe hin
   go_wp2
   go_ret
   exact ⟨by rw [HE.out]; rfl, T1.bel⟩
end Go.Proofs.YtmajllgfmclcoaaGreatDoor.Cor
