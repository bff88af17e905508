/- DomO, DmM, Pure in one text. -/
import Derived.Test.YtjfagpmklifjlaaMg01
import Derived.OwnWalk
import Derived.Laws.AppendOwn
import Derived.Deep.AppendLies
import Derived.Laws.OwnMore
import Derived.Deep.Slices
import Derived.Deep.Strs
import Derived.OpenShut
import Derived.WalkKit
import Derived.Laws.BytesArg
import Derived.Laws.BitsAllLaws

namespace Go.Proofs.Ytjfagpmklifjlaa.Dom
set_option linter.unusedVariables false
set_option linter.unusedSimpArgs false
open Go.RowKit Go.Proofs.Ytjfagpmklifjlaa.Cell Go.Proofs.Ytjfagpmklifjlaa.CellF Go.Proofs.Ytjfagpmklifjlaa.CellN Go.Joins

def mn (a b : Int) : Int := if b < a then b else a
theorem nb_dom {x y u v : Int} (h : nbB x y u v = true) : Ok x y ∧ Ok u v ∧ ((indexN u v < indexN x y ∧ mn x u = u ∧ mn y v = v) ∨ (¬ indexN u v < indexN x y ∧ mn x u = x ∧ mn y v = y)) := by
 obtain ⟨h1, h2, h3⟩ := nbB_iff.1 h
 refine ⟨h1, h2, ?_⟩
 rw [index_of h1, index_of h2]
 obtain ⟨x0, x7, y0, y7⟩ := h1
 obtain ⟨u0, u7, v0, v7⟩ := h2
 unfold mn
 rcases h3 with ⟨rfl, rfl | rfl⟩ | ⟨rfl, rfl | rfl⟩
 ·left; refine ⟨by omega, by simp, by rw [if_pos (by omega)]⟩
 ·right; refine ⟨by omega, by simp, by rw [if_neg (by omega)]⟩
 ·left; refine ⟨by omega, by rw [if_pos (by omega)], by simp⟩
 ·right; refine ⟨by omega, by rw [if_neg (by omega)], by simp⟩

def Ov (w : World) (x y u v : Int) (p q : Int) (b : Bool) (W : World) : Prop :=
 Below w.heap.size w W ∧ At2 W w.heap.size x y ∧ At2 W (w.heap.size + 1) u v ∧ At3 41 W (w.heap.size + 1 + 1) p q b
theorem ov_start (x y u v : Int) (w : World) : Ov w x y u v 0 0 false (((w.alloc (.cells #[.int .i64 x, .int .i64 y] 38)).alloc (.cells #[.int .i64 u, .int .i64 v] 38)).alloc (.cells #[.int .i64 0, .int .i64 0, .bool false] 41)) := by
 obtain ⟨k1, k2, k3⟩ := at2_two w x y u v
 have e2 : ((w.alloc (.cells #[.int .i64 x, .int .i64 y] 38)).alloc (.cells #[.int .i64 u, .int .i64 v] 38)).heap.size = w.heap.size + 1 + 1 := by simp
 generalize (w.alloc (.cells #[.int .i64 x, .int .i64 y] 38)).alloc (.cells #[.int .i64 u, .int .i64 v] 38) = W at k1 k2 k3 e2 ⊢
 have k4 := At3.new 41 W 0 0 false
 rw [e2] at k4
 exact ⟨k3.trans ((below_alloc1 W _).mono k3.size), k1.on (below_alloc1 _ _), k2.on (below_alloc1 _ _), k4⟩
theorem At3.f0 {T : TypeId} {W : World} {q : Nat} {x y : Int} {b : Bool} (h : At3 T W q x y b) : W.frozen? ⟨q, 0, none⟩ = false := by have h' := h; unfold At3 at h'; simp [World.frozen?, h']
theorem At3.f1 {T : TypeId} {W : World} {q : Nat} {x y : Int} {b : Bool} (h : At3 T W q x y b) : W.frozen? ⟨q, 1, none⟩ = false := by have h' := h; unfold At3 at h'; simp [World.frozen?, h']
theorem At3.f2 {T : TypeId} {W : World} {q : Nat} {x y : Int} {b : Bool} (h : At3 T W q x y b) : W.frozen? ⟨q, 2, none⟩ = false := by have h' := h; unfold At3 at h'; simp [World.frozen?, h']
theorem At3.put {T : TypeId} {W : World} {q : Nat} {x y a c : Int} {b d : Bool} (h : At3 T W q x y b) : At3 T (((W.setCell ⟨q, 0, none⟩ (.int .i64 a)).setCell ⟨q, 1, none⟩ (.int .i64 c)).setCell ⟨q, 2, none⟩ (.bool d)) q a c d := by
 have h' := h
 unfold At3 at h' ⊢
 simp [World.setCell, Array.getElem?_modify, h']
section
variable {w W W' : World} {x y u v p q : Int} {b : Bool}
theorem Ov.drew (h : Ov w x y u v p q b W) : Ov w x y u v p q b W.drew := ⟨h.1.drew, h.2⟩
theorem Ov.on (h : Ov w x y u v p q b W) (hb : Below W.heap.size W W') : Ov w x y u v p q b W' := ⟨h.1.trans (hb.mono h.1.size), h.2.1.on hb, h.2.2.1.on hb, h.2.2.2.on hb⟩
theorem Ov.put (h : Ov w x y u v p q b W) (a c : Int) (d : Bool) : Ov w x y u v a c d (((W.setCell ⟨w.heap.size + 1 + 1, 0, none⟩ (.int .i64 a)).setCell ⟨w.heap.size + 1 + 1, 1, none⟩ (.int .i64 c)).setCell ⟨w.heap.size + 1 + 1, 2, none⟩ (.bool d)) :=
 ⟨((h.1.setCell (p := ⟨w.heap.size + 1 + 1, 0, none⟩) (by show w.heap.size ≤ w.heap.size + 1 + 1; omega) _).setCell (p := ⟨w.heap.size + 1 + 1, 1, none⟩) (by show w.heap.size ≤ w.heap.size + 1 + 1; omega) _).setCell (p := ⟨w.heap.size + 1 + 1, 2, none⟩) (by show w.heap.size ≤ w.heap.size + 1 + 1; omega) _, (h.2.1.far2 (by omega)).far (by omega), (h.2.2.1.far2 (by omega)).far (by omega), h.2.2.2.put⟩
theorem Ov.putFar (h : Ov w x y u v p q b W) {k : Nat} (hk : w.heap.size + 3 ≤ k) (a c : Int) : Ov w x y u v p q b ((W.setCell ⟨k, 0, none⟩ (.int .i64 a)).setCell ⟨k, 1, none⟩ (.int .i64 c)) :=
 ⟨(h.1.setCell (p := ⟨k, 0, none⟩) (by show w.heap.size ≤ k; omega) _).setCell (p := ⟨k, 1, none⟩) (by show w.heap.size ≤ k; omega) _, h.2.1.far2 (by omega), h.2.2.1.far2 (by omega), (h.2.2.2.far (by omega)).far (by omega)⟩
end

set_option maxHeartbeats 400000 in
theorem iDominoOver_no (x y u v : Int) (hn : nbB x y u v = false) (w : World) :
  Calls Try.prog 53 #[.agg #[.int .i64 x, .int .i64 y], .agg #[.int .i64 u, .int .i64 v]] w (DoB 0 0 false false w) := by
 have HO := Lib.hid (fun W => hn ▸ iAreNeighbors x y u v W)
 have T0 := Lib.hid (ov_start x y u v w)
 clear hn
 go_enter Try.func53, Try.ntmps53
 go_wp2_with fail
 refine (HO.out _).mono ?_
 rintro e w1 ⟨rfl, hb1⟩
 have T1 := T0.out.on hb1
 have T2 := T1.put 0 0 false
 have c0 := T1.2.2.2.c0
 have c1 := T1.2.2.2.c1
 have c2 := T1.2.2.2.c2
 have c3 := T1.2.2.2.f0
 have c4 := T1.2.2.2.f1
 have c5 := T1.2.2.2.f2
 clear T0 T1 hb1 HO
 go_wp2
 have r0 := T2.2.2.2.c0
 have r1 := T2.2.2.2.c1
 have r2 := T2.2.2.2.c2
 refine bodyPost_ret (v := .tuple #[.agg #[.int .i64 0, .int .i64 0, .bool false], .bool false]) ?_ rfl (mkDoB rfl rfl rfl rfl T2.1)
 simp [results, Try.results53, go_sem, r0, r1, r2]

set_option maxHeartbeats 1000000 in
theorem iDominoOver_ok (x y u v : Int) (hn : nbB x y u v = true) (w : World) :
  Calls Try.prog 53 #[.agg #[.int .i64 x, .int .i64 y], .agg #[.int .i64 u, .int .i64 v]] w (DoB (mn x u) (mn y v) (decide (x = u)) true w) := by
 have HO := Lib.hid (fun W => hn ▸ iAreNeighbors x y u v W)
 have T0 := Lib.hid (ov_start x y u v w)
 have HD := Lib.hid (nb_dom hn).2.2
 have HI1 := Lib.hid (fun W => iCellIndex x y W)
 have HI2 := Lib.hid (fun W => iCellIndex u v W)
 generalize indexN x y = i1 at HI1 HD
 generalize indexN u v = i2 at HI2 HD
 generalize mn x u = mx at HD ⊢
 generalize mn y v = my at HD ⊢
 clear hn
 go_enter Try.func53, Try.ntmps53
 go_wp2_with fail
 refine (HO.out _).mono ?_
 rintro e w1 ⟨rfl, hb1⟩
 have T1 := T0.out.on hb1
 have a0 := T1.2.1.c0
 have a1 := T1.2.1.c1
 clear T0 hb1 HO
 go_upto_region 4 with fail
 have k1 := At2.new w1 x y
 have hlt := T1.2.2.2.lt
 have T2 := T1.on (below_alloc1 w1 (.cells #[.int .i64 x, .int .i64 y] 38))
 clear T1 a0 a1
 generalize w1.alloc (.cells #[.int .i64 x, .int .i64 y] 38) = W at k1 T2 ⊢
 refine wp_region_noPanic ?_
 refine wp_region_held_drew (S := (fun w' => w'.cell? ⟨w.heap.size, 0, none⟩ = some (.int .i64 x) ∧ w'.cell? ⟨w.heap.size, 1, none⟩ = some (.int .i64 y) ∧ w'.cell? ⟨w.heap.size + 1, 0, none⟩ = some (.int .i64 u) ∧ w'.cell? ⟨w.heap.size + 1, 1, none⟩ = some (.int .i64 v))) (by kernel_rfl) (⟨T2.2.1.c0, T2.2.1.c1, T2.2.2.1.c0, T2.2.2.1.c1⟩) (fun hHeld => ?_)
 refine wpAnyH_take (i := 0) (v := ?_) rfl (by kernel_rfl) (by kernel_rfl) (by kernel_rfl) (fun _ _ _ h => h) (Or.inl ⟨by rfl, ?_⟩) (by assumption) ?_
 rotate_left
 ·(intro w' hS; (try dsimp only at hS); go_simp; try with_reducible rfl)
 try simp only [Act.put, List.getElem_toArray, List.getElem_cons_succ, List.getElem_cons_zero, List.setIfInBounds_toArray, List.set_cons_zero, List.set_cons_succ]
 refine wpAnyH_take (i := 2) (v := ?_) rfl (by kernel_rfl) (by kernel_rfl) (by kernel_rfl) (fun _ _ _ h => h) (Or.inl ⟨by rfl, ?_⟩) (by assumption) ?_
 rotate_left
 ·(intro w' hS; (try dsimp only at hS); go_simp; try with_reducible rfl)
 try simp only [Act.put, List.getElem_toArray, List.getElem_cons_succ, List.getElem_cons_zero, List.setIfInBounds_toArray, List.set_cons_zero, List.set_cons_succ]
 refine wpAnyH_ready (rs := [1]) (by kernel_rfl) (by simp) ?_
 refine AllReadyH.cons rfl (fun K hK => ?_) AllReadyH.nil
 go_simp
 refine (HI2.out _).mono ?_
 rintro e wx ⟨rfl, hb6⟩
 have T3 := T2.drew.on hb6
 have k3 := (show At2 W.drew _ _ _ from k1).on hb6
 go_wp2_with fail
 refine hK.out _ _ (⟨T3.2.1.c0, T3.2.1.c1, T3.2.2.1.c0, T3.2.2.1.c1⟩) (fun hHeld => ?_)
 clear hK K
 try simp only [Act.put, List.getElem_toArray, List.getElem_cons_succ, List.getElem_cons_zero, List.setIfInBounds_toArray, List.set_cons_zero, List.set_cons_succ]
 refine wpAnyH_ready (rs := [3]) (by kernel_rfl) (by simp) ?_
 refine AllReadyH.cons rfl (fun K hK => ?_) AllReadyH.nil
 go_simp
 refine (HI1.out _).mono ?_
 rintro e wx ⟨rfl, hb7⟩
 have T4 := T3.on hb7
 have k4 := k3.on hb7
 clear T2 T3 k3 k1 hb6 hb7 HI1 HI2
 go_wp2_with fail
 refine hK.out _ _ (⟨T4.2.1.c0, T4.2.1.c1, T4.2.2.1.c0, T4.2.2.1.c1⟩) (fun hHeld => ?_)
 clear hK K
 try simp only [Act.put, List.getElem_toArray, List.getElem_cons_succ, List.getElem_cons_zero, List.setIfInBounds_toArray, List.set_cons_zero, List.set_cons_succ]
 refine wpAnyH_take (i := 4) (v := ?_) rfl (by kernel_rfl) (by kernel_rfl) (by kernel_rfl) (fun _ _ _ h => h) (Or.inl ⟨by rfl, ?_⟩) (by assumption) ?_
 rotate_left
 ·(intro w' hS; (try dsimp only at hS); go_simp; try with_reducible rfl)
 try simp only [Act.put, List.getElem_toArray, List.getElem_cons_succ, List.getElem_cons_zero, List.setIfInBounds_toArray, List.set_cons_zero, List.set_cons_succ]
 refine wpAnyH_done (by kernel_rfl) ?_ _
 refine NoPanic.normal ?_
 have a0 := T4.2.1.c0
 have a1 := T4.2.1.c1
 have a2 := T4.2.2.1.c0
 have a3 := T4.2.2.1.c1
 by_cases hlt2 : i2 < i1
 ·obtain ⟨rfl, rfl⟩ : mx = u ∧ my = v := by
   have := HD.out
   exact ⟨by omega, by omega⟩
  have f0 := k4.c0
  have f1 := k4.c1
  have f2 := k4.f0
  have f3 := k4.f1
  clear HD
  go_upto_region 6 with fail
  have T5 := T4.putFar (k := w1.heap.size) (by omega) mx my
  have k5 := k4.put (a := mx) (b := my)
  clear T4 k4 a0 a1 a2 a3 f0 f1 f2 f3
  generalize (World.setCell wx ⟨w1.heap.size, 0, none⟩ _).setCell ⟨w1.heap.size, 1, none⟩ _ = W5 at T5 k5 ⊢
  have T6 := T5.put mx my (x == mx)
  have a0 := T5.2.1.c0
  have a1 := T5.2.1.c1
  have a2 := T5.2.2.1.c0
  have a3 := T5.2.2.1.c1
  have f0 := k5.c0
  have f1 := k5.c1
  have c0 := T5.2.2.2.c0
  have c1 := T5.2.2.2.c1
  have c2 := T5.2.2.2.c2
  have c3 := T5.2.2.2.f0
  have c4 := T5.2.2.2.f1
  have c5 := T5.2.2.2.f2
  have r0 := T6.2.2.2.c0
  have r1 := T6.2.2.2.c1
  have r2 := T6.2.2.2.c2
  have hb := T6.1
  clear T5 T6 k5
  go_wp2
  refine bodyPost_ret (v := .tuple #[.agg #[.int .i64 mx, .int .i64 my, .bool (x == mx)], .bool true]) ?_ rfl (mkDoB rfl rfl (by rw [Bool.eq_iff_iff]; simp) rfl hb)
  simp [results, Try.results53, go_sem, r0, r1, r2]
 ·obtain ⟨rfl, rfl⟩ : mx = x ∧ my = y := by
   have := HD.out
   exact ⟨by omega, by omega⟩
  clear HD
  go_upto_region 6 with fail
  have T5 := T4
  have k5 := k4
  clear T4 k4 a0 a1 a2 a3
  have T6 := T5.put mx my (mx == u)
  have a0 := T5.2.1.c0
  have a1 := T5.2.1.c1
  have a2 := T5.2.2.1.c0
  have a3 := T5.2.2.1.c1
  have f0 := k5.c0
  have f1 := k5.c1
  have c0 := T5.2.2.2.c0
  have c1 := T5.2.2.2.c1
  have c2 := T5.2.2.2.c2
  have c3 := T5.2.2.2.f0
  have c4 := T5.2.2.2.f1
  have c5 := T5.2.2.2.f2
  have r0 := T6.2.2.2.c0
  have r1 := T6.2.2.2.c1
  have r2 := T6.2.2.2.c2
  have hb := T6.1
  clear T5 T6 k5
  go_wp2
  refine bodyPost_ret (v := .tuple #[.agg #[.int .i64 mx, .int .i64 my, .bool (mx == u)], .bool true]) ?_ rfl (mkDoB rfl rfl (by rw [Bool.eq_iff_iff]; simp) rfl hb)
  simp [results, Try.results53, go_sem, r0, r1, r2]
end Go.Proofs.Ytjfagpmklifjlaa.Dom

namespace Go.Proofs.Ytjfagpmklifjlaa.Dms
set_option linter.unusedVariables false
set_option linter.unusedSimpArgs false
open Go.RowKit Go.Proofs.Ytjfagpmklifjlaa.Base Go.Proofs.Ytjfagpmklifjlaa.Dom Go.Joins Go.ChangeShapes Go.WideShapes Go.Deep

abbrev Dm := Int × Int × Bool
def rowM (L : List Dm) : List Value := L.flatMap fun d => [.int .i64 d.1, .int .i64 d.2.1, .bool d.2.2]
theorem rowM_cons (d : Dm) (L : List Dm) : rowM (d :: L) = .int .i64 d.1 :: .int .i64 d.2.1 :: .bool d.2.2 :: rowM L := rfl
theorem rowM_app (L M : List Dm) : rowM (L ++ M) = rowM L ++ rowM M := by unfold rowM; simp
theorem rowM_snoc (L : List Dm) (d : Dm) : rowM (L ++ [d]) = rowM L ++ [.int .i64 d.1, .int .i64 d.2.1, .bool d.2.2] := by rw [rowM_app]; rfl
theorem rowM_length (L : List Dm) : (rowM L).length = L.length * 3 := by
 induction L with
 | nil => rfl
 | cons d L ih => rw [rowM_cons]; simp only [List.length_cons, ih]; omega
theorem rowM_at (L : List Dm) : ∀ (j : Nat) (d : Dm), L[j]? = some d → (rowM L)[j * 3]? = some (.int .i64 d.1) ∧ (rowM L)[j * 3 + 1]? = some (.int .i64 d.2.1) ∧ (rowM L)[j * 3 + 2]? = some (.bool d.2.2) := by
 induction L with
 | nil => intro j d h; simp at h
 | cons q L ih =>
  intro j d h
  rw [rowM_cons]
  cases j with
  | zero => simp at h; subst h; exact ⟨rfl, rfl, rfl⟩
  | succ j =>
   have h' : L[j]? = some d := by simpa using h
   rw [show (j + 1) * 3 = j * 3 + 1 + 1 + 1 from by omega, show j * 3 + 1 + 1 + 1 + 1 = j * 3 + 1 + 1 + 1 + 1 from rfl]
   obtain ⟨a, b, c⟩ := ih j d h'
   exact ⟨by simpa using a, by simpa using b, by simpa using c⟩
theorem rowM_put (L : List Dm) (p q : Dm) (M : List Dm) (j : Nat) (hj : L.length = j) :
  (((rowM (L ++ p :: M)).set (j * 3) (.int .i64 q.1)).set (j * 3 + 1) (.int .i64 q.2.1)).set (j * 3 + 2) (.bool q.2.2) = rowM (L ++ q :: M) := by
 have hl : (rowM L).length = j * 3 := by rw [rowM_length, hj]
 rw [rowM_app, rowM_app, List.set_append_right _ _ (by omega), List.set_append_right _ _ (by omega), List.set_append_right _ _ (by omega), hl, Nat.sub_self, show j * 3 + 1 - j * 3 = 1 from by omega, show j * 3 + 2 - j * 3 = 2 from by omega]
 rfl
def RowM (w : World) (B : Nat) (A : Option Addr) (L : List Dm) : Prop :=
 ∃ b off : Nat, (0 < L.length → A = some ⟨b, off, none⟩ ∧ b < B) ∧ ∀ j d, L[j]? = some d →
  w.cell? ⟨b, off + j * 3, none⟩ = some (.int .i64 d.1) ∧ w.cell? ⟨b, off + j * 3 + 1, none⟩ = some (.int .i64 d.2.1) ∧ w.cell? ⟨b, off + j * 3 + 2, none⟩ = some (.bool d.2.2)
theorem RowM.mono {w : World} {B B' : Nat} {A : Option Addr} {L : List Dm} (h : RowM w B A L) (hB : B ≤ B') : RowM w B' A L := by
 obtain ⟨b, off, h1, h2⟩ := h
 exact ⟨b, off, fun k => ⟨(h1 k).1, by have := (h1 k).2; omega⟩, h2⟩
theorem some_pos {α : Type} {L : List α} {j : Nat} {d : α} (h : L[j]? = some d) : 0 < L.length := by have := (List.getElem?_eq_some_iff.1 h).1; omega
theorem RowM.below {w w' : World} {B B' : Nat} {A : Option Addr} {L : List Dm} (h : RowM w B A L) (hb : Below B' w w') (hB : B ≤ B') : RowM w' B A L := by
 obtain ⟨b, off, h1, h2⟩ := h
 refine ⟨b, off, h1, fun j d hd => ?_⟩
 have hlt : b < B' := by have := (h1 (some_pos hd)).2; omega
 rw [hb.cell (p := ⟨b, off + j * 3, none⟩) hlt, hb.cell (p := ⟨b, off + j * 3 + 1, none⟩) hlt, hb.cell (p := ⟨b, off + j * 3 + 2, none⟩) hlt]
 exact h2 j d hd
theorem RowM.drew {w : World} {B : Nat} {A : Option Addr} {L : List Dm} (h : RowM w B A L) : RowM w.drew B A L := h
theorem rowM_own {w : World} {base e n cap : Nat} {A : Option Addr} {L : List Dm} (h : w.ownsRow base e 3 (.slice A n cap) n (rowM L)) : RowM w w.heap.size A L := by
 have hn : L.length = n := by have := h.1; rw [rowM_length] at this; omega
 by_cases h0 : L.length = 0
 ·have : L = [] := List.eq_nil_of_length_eq_zero h0
  subst this
  exact ⟨0, 0, fun h => by simp at h, fun j u hu => by simp at hu⟩
 ·obtain ⟨g, c, hv, _, hlt⟩ := h.form (by omega)
  injection hv with hA
  subst hA
  refine ⟨g, 0, fun _ => ⟨rfl, hlt⟩, fun j d hd => ?_⟩
  obtain ⟨h1, h2, h3⟩ := rowM_at L j d hd
  have c1 := h.cells (g := g) rfl _ _ h1
  have c2 := h.cells (g := g) rfl _ _ h2
  have c3 := h.cells (g := g) rfl _ _ h3
  rw [Base.add_plain] at c1 c2 c3
  simp only [Nat.zero_add]
  exact ⟨c1, c2, c3⟩
theorem RowM.at {w : World} {B : Nat} {A : Option Addr} {L : List Dm} (h : RowM w B A L) : ∃ b off : Nat, (0 < L.length → A = some ⟨b, off, none⟩ ∧ b < B) ∧ ∀ j, (hj : j < L.length) →
  w.cell? ⟨b, off + j * 3, none⟩ = some (.int .i64 L[j].1) ∧ w.cell? ⟨b, off + j * 3 + 1, none⟩ = some (.int .i64 L[j].2.1) ∧ w.cell? ⟨b, off + j * 3 + 2, none⟩ = some (.bool L[j].2.2) := by
 obtain ⟨b, off, h1, h2⟩ := h
 exact ⟨b, off, h1, fun j hj => h2 j _ (List.getElem?_eq_getElem hj)⟩
def Fits (L : List Dm) : Prop := ∀ d ∈ L, Sm d.1 ∧ Sm d.2.1

end Go.Proofs.Ytjfagpmklifjlaa.Dms

namespace Go.Proofs.Ytjfagpmklifjlaa.Pure
open Go.RowKit

def okR (xs : List Int) : Prop := xs.length ≤ 8 ∧ ∀ x ∈ xs, 0 ≤ x ∧ x ≤ 255
instance (xs : List Int) : Decidable (okR xs) := inferInstanceAs (Decidable (_ ∧ _))
def okRB (xs : List Int) : Bool := decide (okR xs)
theorem okRB_iff {xs : List Int} : okRB xs = true ↔ okR xs := by unfold okRB; simp
theorem okRB_of {xs : List Int} (h : okR xs) : okRB xs = true := decide_eq_true h
theorem okRB_not {xs : List Int} (h : ¬ okR xs) : okRB xs = false := decide_eq_false h
def bitB (r : Int) (k : Nat) : Bool := decide (r / 2 ^ k % 2 = 1)
theorem bitB_zero (k : Nat) : bitB 0 k = false := by unfold bitB; simp
def rowD (xs : List Int) (y : Nat) : Int := xs.getD y 0
theorem rowD_at {xs : List Int} {y : Nat} {r : Int} (h : xs[y]? = some r) : rowD xs y = r := by unfold rowD; simp [List.getD, h]
theorem rowD_out {xs : List Int} {y : Nat} (h : xs.length ≤ y) : rowD xs y = 0 := by unfold rowD; simp [List.getD, List.getElem?_eq_none h]
theorem rowD_ok {xs : List Int} (h : okR xs) (y : Nat) : 0 ≤ rowD xs y ∧ rowD xs y ≤ 255 := by
 by_cases hy : y < xs.length
 ·have e : rowD xs y = xs[y] := rowD_at (List.getElem?_eq_getElem hy)
  rw [e]; exact h.2 _ (List.getElem_mem hy)
 ·rw [rowD_out (by omega)]; omega
def cellsTo (xs : List Int) (k : Nat) : List (Int × Int) := ((List.range k).filter fun j => bitB (rowD xs (j / 8)) (j % 8)).map fun j => (((j % 8 : Nat) : Int), ((j / 8 : Nat) : Int))
theorem cellsTo_yes {xs : List Int} {k : Nat} (h : bitB (rowD xs (k / 8)) (k % 8) = true) : cellsTo xs (k + 1) = cellsTo xs k ++ [(((k % 8 : Nat) : Int), ((k / 8 : Nat) : Int))] := by
 unfold cellsTo; rw [List.range_succ, List.filter_append, List.map_append]; simp [h]
theorem cellsTo_no {xs : List Int} {k : Nat} (h : bitB (rowD xs (k / 8)) (k % 8) = false) : cellsTo xs (k + 1) = cellsTo xs k := by
 unfold cellsTo; rw [List.range_succ, List.filter_append, List.map_append]; simp [h]
theorem cellsTo_length (xs : List Int) (k : Nat) : (cellsTo xs k).length ≤ k := by
 unfold cellsTo; rw [List.length_map]; exact Nat.le_trans (List.length_filter_le _ _) (by simp)
theorem cellsTo_out {xs : List Int} {k : Nat} (h : xs.length * 8 ≤ k) (m : Nat) : cellsTo xs (k + m) = cellsTo xs k := by
 induction m with
 | zero => rfl
 | succ m ih =>
  rw [← Nat.add_assoc, cellsTo_no, ih]
  rw [rowD_out (by omega)]; exact bitB_zero _
def cellsR (xs : List Int) : List (Int × Int) := if okR xs then cellsTo xs 64 else []
theorem cellsR_ok {xs : List Int} (h : okR xs) : cellsR xs = cellsTo xs 64 := by unfold cellsR; simp [h]
theorem cellsR_ok' {xs : List Int} (h : okR xs) : cellsR xs = cellsTo xs (xs.length * 8) := by
 rw [cellsR_ok h]
 have := h.1
 have e := cellsTo_out (xs := xs) (k := xs.length * 8) (Nat.le_refl _) (64 - xs.length * 8)
 rw [show xs.length * 8 + (64 - xs.length * 8) = 64 by omega] at e
 exact e
theorem cellsR_not {xs : List Int} (h : ¬ okR xs) : cellsR xs = [] := by unfold cellsR; simp [h]
theorem cellsR_length (xs : List Int) : (cellsR xs).length ≤ 64 := by
 unfold cellsR; split
 ·exact cellsTo_length _ _
 ·simp
def hasB (xs : List Int) (x y : Int) : Bool := decide (okR xs ∧ 0 ≤ x ∧ x ≤ 7 ∧ 0 ≤ y ∧ y ≤ 7 ∧ bitB (rowD xs y.toNat) x.toNat = true)
theorem hasB_iff {xs : List Int} {x y : Int} : hasB xs x y = true ↔ okR xs ∧ 0 ≤ x ∧ x ≤ 7 ∧ 0 ≤ y ∧ y ≤ 7 ∧ bitB (rowD xs y.toNat) x.toNat = true := by unfold hasB; simp
def rectR (w h : Int) : List Int := if 1 ≤ w ∧ w ≤ 8 ∧ 1 ≤ h ∧ h ≤ 8 then List.replicate h.toNat (2 ^ w.toNat - 1) else []
theorem rectR_in {w h : Int} (k : 1 ≤ w ∧ w ≤ 8 ∧ 1 ≤ h ∧ h ≤ 8) : rectR w h = List.replicate h.toNat (2 ^ w.toNat - 1) := by unfold rectR; simp [k]
theorem rectR_out {w h : Int} (k : ¬ (1 ≤ w ∧ w ≤ 8 ∧ 1 ≤ h ∧ h ≤ 8)) : rectR w h = [] := by unfold rectR; rw [if_neg k]
def putB (r : Int) (k : Nat) (on : Bool) : Int := if bitB r k = on then r else if on then r + 2 ^ k else r - 2 ^ k
def pad8 (xs : List Int) : List Int := xs ++ List.replicate (8 - xs.length) 0
theorem pad8_length {xs : List Int} (h : xs.length ≤ 8) : (pad8 xs).length = 8 := by unfold pad8; simp; omega
theorem rowD_pad8 (xs : List Int) (y : Nat) : rowD (pad8 xs) y = rowD xs y := by
 unfold rowD pad8
 simp only [List.getD]
 by_cases h : y < xs.length
 ·rw [List.getElem?_append_left h]
 ·rw [List.getElem?_append_right (by omega), List.getElem?_eq_none (l := xs) (by omega)]
  by_cases h2 : y - xs.length < 8 - xs.length
  ·rw [List.getElem?_replicate]; simp [h2]
  ·rw [List.getElem?_eq_none (by simp; omega)]
def withR (xs : List Int) (x y : Nat) (on : Bool) : List Int := (pad8 xs).set y (putB (rowD xs y) x on)
theorem withR_length {xs : List Int} (h : xs.length ≤ 8) (x y : Nat) (on : Bool) : (withR xs x y on).length = 8 := by unfold withR; rw [List.length_set, pad8_length h]
theorem rowD_with {xs : List Int} (h : xs.length ≤ 8) (x : Nat) {y : Nat} (hy : y < 8) (on : Bool) (z : Nat) : rowD (withR xs x y on) z = if z = y then putB (rowD xs y) x on else rowD xs z := by
 have hl := pad8_length h
 by_cases e : z = y
 ·subst e
  rw [if_pos rfl]
  unfold withR
  refine rowD_at ?_
  rw [List.getElem?_set_self (by omega)]
 ·rw [if_neg e, ← rowD_pad8 xs z]
  unfold withR rowD
  simp only [List.getD]
  rw [List.getElem?_set_ne (by omega)]
theorem and_table : ∀ r : Fin 256, ∀ k : Fin 8, (bits .and .i64 ((r.val : Nat) : Int) ((2 ^ k.val : Nat) : Int) = if bitB ((r.val : Nat) : Int) k.val then ((2 ^ k.val : Nat) : Int) else 0) ∧
  (bits .and .i64 (((r.val : Nat) : Int) / 2 ^ k.val) 1 = if bitB ((r.val : Nat) : Int) k.val then 1 else 0) ∧ (bits .or .i64 ((r.val : Nat) : Int) ((2 ^ k.val : Nat) : Int) = putB ((r.val : Nat) : Int) k.val true) ∧
  (bits .andNot .i64 ((r.val : Nat) : Int) ((2 ^ k.val : Nat) : Int) = putB ((r.val : Nat) : Int) k.val false) ∧ (putB ((r.val : Nat) : Int) k.val true - 2 ^ k.val = putB ((r.val : Nat) : Int) k.val false) ∧
  0 ≤ putB ((r.val : Nat) : Int) k.val true ∧ putB ((r.val : Nat) : Int) k.val true ≤ 255 ∧ 0 ≤ putB ((r.val : Nat) : Int) k.val false ∧ putB ((r.val : Nat) : Int) k.val false ≤ 255 ∧
  (putB (putB ((r.val : Nat) : Int) k.val true) k.val false = ((r.val : Nat) : Int) ↔ bitB ((r.val : Nat) : Int) k.val = false) := by decide +kernel
theorem table {r : Int} (h0 : 0 ≤ r) (h1 : r ≤ 255) {k : Nat} (hk : k < 8) : (bits .and .i64 r (2 ^ k) = if bitB r k then (2 : Int) ^ k else 0) ∧
  (bits .and .i64 (r / 2 ^ k) 1 = if bitB r k then 1 else 0) ∧ (bits .or .i64 r (2 ^ k) = putB r k true) ∧
  (bits .andNot .i64 r (2 ^ k) = putB r k false) ∧ (putB r k true - 2 ^ k = putB r k false) ∧
  0 ≤ putB r k true ∧ putB r k true ≤ 255 ∧ 0 ≤ putB r k false ∧ putB r k false ≤ 255 ∧ (putB (putB r k true) k false = r ↔ bitB r k = false) := by
 have h := and_table ⟨r.toNat, by omega⟩ ⟨k, hk⟩
 have e : ((r.toNat : Nat) : Int) = r := Int.toNat_of_nonneg h0
 have e2 : ((2 ^ k : Nat) : Int) = 2 ^ k := by simp
 simp only [e, e2] at h
 exact h
theorem and_no {r : Int} (h0 : 0 ≤ r) (h1 : r ≤ 255) {k : Nat} (hk : k < 8) (hb : bitB r k = false) : bits .and .i64 r (2 ^ k) = 0 := by rw [(table h0 h1 hk).1, hb]; rfl
theorem and_yes {r : Int} (h0 : 0 ≤ r) (h1 : r ≤ 255) {k : Nat} (hk : k < 8) (hb : bitB r k = true) : bits .and .i64 r (2 ^ k) = 2 ^ k := by rw [(table h0 h1 hk).1, hb]; rfl
theorem shr_no {r : Int} (h0 : 0 ≤ r) (h1 : r ≤ 255) {k : Nat} (hk : k < 8) (hb : bitB r k = false) : bits .and .i64 (r / 2 ^ k) 1 = 0 := by rw [(table h0 h1 hk).2.1, hb]; rfl
theorem shr_yes {r : Int} (h0 : 0 ≤ r) (h1 : r ≤ 255) {k : Nat} (hk : k < 8) (hb : bitB r k = true) : bits .and .i64 (r / 2 ^ k) 1 = 1 := by rw [(table h0 h1 hk).2.1, hb]; rfl
end Go.Proofs.Ytjfagpmklifjlaa.Pure
