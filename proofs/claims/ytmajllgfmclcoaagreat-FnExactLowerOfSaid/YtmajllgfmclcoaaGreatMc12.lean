/- NbS, NbI, CelM in one text. -/
import Derived.Test.YtmajllgfmclcoaaGreatMc00
import Derived.OwnWalk
import Derived.Laws.AppendOwn
import Derived.Deep.AppendLies
import Derived.Deep.DeepAppendRoom
import Derived.Deep.RegionHeld3
import Derived.Laws.OwnMore

namespace Go.Proofs.YtmajllgfmclcoaaGreat.Nb
set_option linter.unusedVariables false
open Go.RowKit Go.Proofs.YtmajllgfmclcoaaGreat.Base Go.Proofs.YtmajllgfmclcoaaGreat.Cell Go.Proofs.YtmajllgfmclcoaaGreat.CellN Go.Joins

def rowC (L : List (Int × Int)) : List Value := L.flatMap fun p => [.int .i64 p.1, .int .i64 p.2]
theorem rowC_snoc (L : List (Int × Int)) (p : Int × Int) : rowC (L ++ [p]) = rowC L ++ [.int .i64 p.1, .int .i64 p.2] := by unfold rowC; simp
def nbTo (x y : Int) (k : Nat) : List (Int × Int) := ((List.range k).filter fun (j : Nat) => nbB x y (atX (j : Int)) (atY (j : Int))).map fun (j : Nat) => (atX (j : Int), atY (j : Int))
theorem nbTo_yes {x y : Int} {k : Nat} (h : nbB x y (atX (k : Int)) (atY (k : Int)) = true) : nbTo x y (k + 1) = nbTo x y k ++ [(atX (k : Int), atY (k : Int))] := by
 unfold nbTo; rw [List.range_succ, List.filter_append, List.map_append]; simp [h]
theorem nbTo_no {x y : Int} {k : Nat} (h : nbB x y (atX (k : Int)) (atY (k : Int)) = false) : nbTo x y (k + 1) = nbTo x y k := by
 unfold nbTo; rw [List.range_succ, List.filter_append, List.map_append]; simp [h]
theorem nbTo_length (x y : Int) (k : Nat) : (nbTo x y k).length ≤ k := by
 unfold nbTo; rw [List.length_map]; exact Nat.le_trans (List.length_filter_le _ _) (by simp)

theorem own_below {w w' : World} {base e size n : Nat} {v : Value} {xs : List Value} (h : w.ownsRow base e size v n xs) (hb : Below w.heap.size w w') : w'.ownsRow base e size v n xs :=
 h.kept (row := none) ⟨hb.os, hb.tape, hb.output, hb.size, fun i hi _ => hb.block i hi⟩ (by cases v <;> simp [Value.ownBlock] <;> (try (split <;> simp)))
theorem bx2 {T : TypeId} (x y : Int) (w w1 : World) (h : Below (w.alloc (.cells #[.int .i64 x, .int .i64 y] T)).heap.size (w.alloc (.cells #[.int .i64 x, .int .i64 y] T)) w1) :
  w1.cell? ⟨w.heap.size, 0, none⟩ = some (.int .i64 x) ∧ w1.cell? ⟨w.heap.size, 1, none⟩ = some (.int .i64 y) := by
 have hbl : (w.alloc (.cells #[.int .i64 x, .int .i64 y] T)).heap[w.heap.size]? = some (.cells #[.int .i64 x, .int .i64 y] T) := by
  show (w.heap.push _)[w.heap.size]? = _
  exact Array.getElem?_push_size
 exact ⟨by rw [h.cell (by simp)]; exact (cell_of_row _ _ 0 _ _ _ hbl).trans rfl, by rw [h.cell (by simp)]; exact (cell_of_row _ _ 1 _ _ _ hbl).trans rfl⟩

def NbPost (L : List (Int × Int)) (w : World) (e : Ending) (w' : World) : Prop :=
 ∃ (A : Option Addr) (cap : Nat), e = .returned (.slice A L.length cap) ∧ w'.ownsRow w.heap.size 60 2 (.slice A L.length cap) L.length (rowC L) ∧ Below w.heap.size w w'

theorem cellInfo : (Tryz.prog.info? 60).map (fun i => (i.zero, i.size, i.bytes)) = some (some (.agg #[.int .i64 0, .int .i64 0]), 2, 16) := by kernel_rfl

theorem own_base {w : World} {B B' e size n : Nat} {v : Value} {xs : List Value} (h : w.ownsRow B e size v n xs) (hB : B' ≤ B) : w.ownsRow B' e size v n xs := by
 refine ⟨h.1, ?_⟩
 rcases h.2 with h | ⟨g, cap, cur, a, b, c⟩
 ·exact .inl h
 ·exact .inr ⟨g, cap, cur, a, by omega, c⟩
theorem box1 {T : TypeId} (x y : Int) (w : World) : (w.alloc (.cells #[.int .i64 x, .int .i64 y] T)).cell? ⟨w.heap.size, 0, none⟩ = some (.int .i64 x) ∧ (w.alloc (.cells #[.int .i64 x, .int .i64 y] T)).cell? ⟨w.heap.size, 1, none⟩ = some (.int .i64 y) := by
 have hbl : (w.alloc (.cells #[.int .i64 x, .int .i64 y] T)).heap[w.heap.size]? = some (.cells #[.int .i64 x, .int .i64 y] T) := by
  show (w.heap.push _)[w.heap.size]? = _
  exact Array.getElem?_push_size
 exact ⟨(cell_of_row _ _ 0 _ _ _ hbl).trans rfl, (cell_of_row _ _ 1 _ _ _ hbl).trans rfl⟩

set_option maxRecDepth 100000 in
set_option maxHeartbeats 1000000 in
theorem specNb (x y : Int) (w : World) : Calls Tryz.prog 92 #[.agg #[.int .i64 x, .int .i64 y]] w (NbPost (nbTo x y 64) w) := by
 obtain ⟨i0, hi, hz0, hz1, hz2⟩ := info_parts cellInfo
 have HM := Lib.hid (fun (W : World) => World.ownsRow_made (e := 60) (size := 2) W #[] 0 (Nat.le_refl _) (by unfold maxLen; omega) rfl)
 have HB := Lib.hid (fun (T : TypeId) => box1 (T := T) x y w)
 have HW := Lib.hid (fun (T : TypeId) => below_alloc1 w (.cells #[.int .i64 x, .int .i64 y] T))
 go_enter Tryz.func92, Tryz.ntmps92
 go_wp2_with fail
 have HW1 := Lib.hid (show Below (w.heap.size + 1) (w.alloc (.cells #[.int .i64 x, .int .i64 y] 60)) ((w.alloc (.cells #[.int .i64 x, .int .i64 y] 60)).alloc (.cells #[] 60)) from (Below.refl _ _).alloc (by simp) _)
 have HO := Lib.hid (own_base (B' := w.heap.size + 1) (HM.out (w.alloc (.cells #[.int .i64 x, .int .i64 y] 60))) (by simp))
 have hW0 : (w.alloc (.cells #[.int .i64 x, .int .i64 y] 60)).heap.size = w.heap.size + 1 := by simp
 have HB0 := Lib.hid (HB.out 60)
 have HBw := Lib.hid (HW.out 60)
 clear HM HB HW
 obtain ⟨W0, hW⟩ : ∃ W0, W0 = w.alloc (.cells #[.int .i64 x, .int .i64 y] 60) := ⟨_, rfl⟩
 rw [← hW] at HW1 HO hW0 HB0 HBw
 rw [hW0] at HO
 go_loopw [3, 4] (fun v i wr => ∃ k : Nat, k ≤ 64 ∧ i = .int .i64 k ∧ wr.ownsRow (w.heap.size + 1) 60 2 v (nbTo x y k).length (rowC (nbTo x y k)) ∧ Below (w.heap.size + 1) W0 wr) (fun _ i _ => 64 - (intOf i).toNat)
 case atStart => exact ⟨0, Nat.zero_le _, rfl, by rw [hW] at HO; simpa [nbTo, rowC] using HO.out, by rw [hW] at HW1 ⊢; exact HW1.out⟩
 case round =>
  clear HW1 HO
  obtain ⟨k, hk, rfl, hown, hb⟩ := hrel
  have hbs := hb.size
  rw [hW0] at hbs
  by_cases hlt : k < 64
  ·go_wp2_with fail
   refine (sCellAt k _).mono ?_
   rintro e w1 ⟨rfl, hb1⟩
   have hown1 := own_below hown hb1
   have hbb := hb.trans (hb1.mono (by omega))
   have hb1s := hb1.size
   have hc0 := (hbb.cell (p := ⟨w.heap.size, 0, none⟩) (by show w.heap.size < _; omega)).trans HB0.out.1
   have hc1 := (hbb.cell (p := ⟨w.heap.size, 1, none⟩) (by show w.heap.size < _; omega)).trans HB0.out.2
   have hz : w.heap.size < w1.heap.size := by omega
   have HOwn := Lib.hid hown1
   have HBB := Lib.hid hbb
   have HS := Lib.hid hb1s
   have HBs := Lib.hid hbs
   obtain ⟨w1', hw1'⟩ : ∃ w1', w1' = w1 := ⟨_, rfl⟩
   clear hown hb hb1 hown1 hbb hb1s hbs
   obtain ⟨u, hu⟩ : ∃ u, atX (k : Int) = u := ⟨_, rfl⟩
   obtain ⟨v', hv⟩ : ∃ v', atY (k : Int) = v' := ⟨_, rfl⟩
   rw [hu, hv]
   have HU := Lib.hid hu
   have HV := Lib.hid hv
   clear hu hv
   go_wp2_with fail
   refine (sAreNeighbors x y u v' _).mono ?_
   rintro e w2 ⟨rfl, hb2⟩
   obtain ⟨hc2, hc3⟩ := (bx2 u v' w1 w2 hb2)
   have hD : Below (w.heap.size + 1) W0 w2 := (HBB.out.alloc (by have := HS.out; have := HBs.out; omega) _).trans (hb2.mono (by simp; have := HS.out; have := HBs.out; omega))
   have hE : Below w1.heap.size w1 w2 := (below_alloc1 w1 _).trans (hb2.mono (by simp))
   have HOwn2 := Lib.hid (own_below HOwn.out hE)
   have hzz : w1.heap.size < w2.heap.size := by have := hb2.size; simp at this; omega
   have HD := Lib.hid hD
   clear hD hE hb2
   cases hn : nbB x y u v' with
   | false =>
    have HN := Lib.hid (show nbTo x y (k + 1) = nbTo x y k from nbTo_no (by rw [HU.out, HV.out]; exact hn))
    clear hn
    go_wp2
    go_roundw
    case rel => exact ⟨k + 1, by omega, by go_num, by rw [HN.out]; exact HOwn2.out, HD.out⟩
    case measure => (simp [intOf] <;> omega)
   | true =>
    have HN := Lib.hid (show nbTo x y (k + 1) = nbTo x y k ++ [(u, v')] by rw [← HU.out, ← HV.out]; exact nbTo_yes (by rw [HU.out, HV.out]; exact hn))
    clear hn
    have HL := Lib.hid (nbTo_length x y k)
    go_wp2_with (first
     | (at_builtin; refine wpList_append_own _ rfl _ _ 67 rfl (w.heap.size + 1) 60 i0 (.agg #[.int .i64 0, .int .i64 0]) 2 16 Tryz.underlying67 hi hz0 hz1 hz2 rfl (by decide) _ (nbTo x y k).length (rowC (nbTo x y k)) rfl (HOwn2.out.alloc _) ⟨w2.heap.size, 0, none⟩ 1 1 [.int .i64 u, .int .i64 v'] rfl rfl (World.news_of_block (cs := #[.int .i64 u, .int .i64 v']) (t := 60) (fr := (0, 0)) (heap_alloc_new w2 _)) (by simp [Value.oneCell']) (by have := HL.out; unfold maxLen; omega) (by have := HL.out; omega) (by have := HS.out; have := HBs.out; simp; omega) ?_; intro v2 w3 hown3 hgrow _))
    have hb3 : Below (w.heap.size + 1) W0 w3 := (HD.out.alloc (by have := HS.out; have := HBs.out; omega) _).grown hgrow (by simp; have := HS.out; have := HBs.out; omega) (fun g hg => (HOwn2.out.lt g hg).1)
    have R := Lib.hid (show w3.ownsRow (w.heap.size + 1) 60 2 v2 (nbTo x y (k + 1)).length (rowC (nbTo x y (k + 1))) by
     rw [HN.out, rowC_snoc, List.length_append]; exact hown3)
    clear hown3 hgrow
    go_wp2
    go_roundw
    case rel => exact ⟨k + 1, by omega, by go_num, R.out, hb3⟩
    case measure => (simp [intOf] <;> omega)
  ·obtain rfl : k = 64 := by omega
   obtain ⟨A, cap, rfl⟩ := own_shape hown
   have HOwn := Lib.hid hown
   have HEnd := Lib.hid (HBw.out.trans (hb.mono (by omega)))
   clear hown hb
   go_wp2
   go_ret
   exact ⟨A, cap, rfl, own_base HOwn.out (by omega), HEnd.out⟩
end Go.Proofs.YtmajllgfmclcoaaGreat.Nb

namespace Go.Proofs.YtmajllgfmclcoaaGreat.Nb
set_option linter.unusedVariables false
open Go.RowKit Go.Proofs.YtmajllgfmclcoaaGreat.Base Go.Proofs.YtmajllgfmclcoaaGreat.Cell Go.Joins

def One (w : World) (x y : Int) (w' : World) : Prop :=
  Below w.heap.size w w' ∧ w.heap.size + 1 ≤ w'.heap.size ∧ w'.cell? ⟨w.heap.size, 0, none⟩ = some (.int .i64 x) ∧ w'.cell? ⟨w.heap.size, 1, none⟩ = some (.int .i64 y)
theorem One.on {w W W' : World} {x y : Int} (h : One w x y W) (hb : Below W.heap.size W W') : One w x y W' := by
  obtain ⟨h0, h1, h2, h3⟩ := h
  have hz := hb.size
  refine ⟨h0.trans (hb.mono h0.size), by omega, ?_, ?_⟩
  · rw [hb.cell (by show w.heap.size < _; omega)]; exact h2
  · rw [hb.cell (by show w.heap.size < _; omega)]; exact h3
theorem One.drew {w W : World} {x y : Int} (h : One w x y W) : One w x y W.drew := ⟨h.1.drew, h.2⟩
theorem one_start {T : TypeId} (x y : Int) (w w1 : World) (h : Below (w.alloc (.cells #[.int .i64 x, .int .i64 y] T)).heap.size (w.alloc (.cells #[.int .i64 x, .int .i64 y] T)) w1) : One w x y w1 := by
  obtain ⟨a, b⟩ := bx2 x y w w1 h
  exact ⟨(below_alloc1 w _).trans (h.mono (by simp)), by have := h.size; simp at this; omega, a, b⟩

theorem wp_of_rest {P : Program} {c : Code} {Q : Exit → Act → World → Prop} {a : Act} {w : World} (R : (Exit → Act → World → Prop) → Prop) (h : ∀ Q, R Q → c.wp P Q a w) (k : R Q) : c.wp P Q a w := h Q k

set_option maxHeartbeats 400000 in
theorem moved2 (x y a b : Int) (w : World) :
    Calls Tryz.prog 94 #[.agg #[.int .i64 x, .int .i64 y], .int .i64 a, .int .i64 b] w fun e w' => e = .returned (.agg #[.int .i64 (wrap64 (x + a)), .int .i64 (wrap64 (y + b))]) ∧
      w' = ((w.alloc (.cells #[.int .i64 x, .int .i64 y] 60)).alloc (.cells #[.int .i64 (wrap64 (x + a)), .int .i64 (wrap64 (y + b))] 60)) := by
  go_enter Tryz.func94, Tryz.ntmps94
  go_wp2
  exact bodyPost_ret (v := .agg #[.int .i64 (wrap64 (x + a)), .int .i64 (wrap64 (y + b))]) (by simp [results, Tryz.results94, go_sem]) rfl ⟨rfl, rfl⟩

theorem keepB {W : World} {o ob : Obj} {g : Nat} (h : W.heap[g]? = some ob) : (W.alloc o).heap[g]? = some ob := by
  show (W.heap.push o)[g]? = some ob
  have hl := (Array.getElem?_eq_some_iff.1 h).1
  rw [Array.getElem?_push_lt hl, ← h]
  exact (Array.getElem?_eq_getElem hl).symm
theorem newB {W : World} {o : Obj} {g : Nat} (h : g = W.heap.size) : (W.alloc o).heap[g]? = some o := by
  subst h
  exact (show (W.heap.push o)[W.heap.size]? = some o from Array.getElem?_push_size)
theorem drewB {W : World} {o : Obj} {g : Nat} (h : W.heap[g]? = some o) : W.drew.heap[g]? = some o := h
def around (x y : Int) : Array Value := #[.int .i64 (wrap64 x), .int .i64 (wrap64 (y + -1)), .int .i64 (wrap64 (x + -1)), .int .i64 (wrap64 y), .int .i64 (wrap64 (x + 1)), .int .i64 (wrap64 y), .int .i64 (wrap64 x), .int .i64 (wrap64 (y + 1))]

def around4 (x y : Int) : List (Int × Int) := [(wrap64 x, wrap64 (y + -1)), (wrap64 (x + -1), wrap64 y), (wrap64 (x + 1), wrap64 y), (wrap64 x, wrap64 (y + 1))]
def impTo (x y : Int) (k : Nat) : List (Int × Int) := ((around4 x y).take k).filter fun p => okB p.1 p.2
theorem impTo_yes {x y u v : Int} {k : Nat} (h : (around4 x y)[k]? = some (u, v)) (ho : okB u v = true) : impTo x y (k + 1) = impTo x y k ++ [(u, v)] := by
  unfold impTo; rw [List.take_add_one, h, List.filter_append]; simp [ho]
theorem impTo_no {x y u v : Int} {k : Nat} (h : (around4 x y)[k]? = some (u, v)) (ho : okB u v = false) : impTo x y (k + 1) = impTo x y k := by
  unfold impTo; rw [List.take_add_one, h, List.filter_append]; simp [ho]
theorem impTo_length (x y : Int) (k : Nat) : (impTo x y k).length ≤ 4 := by
  unfold impTo
  exact Nat.le_trans (List.length_filter_le _ _) (by rw [List.length_take]; exact Nat.min_le_right _ _)
theorem same_table : ∀ i j : Fin 8, nbTo ((i.val : Nat) : Int) ((j.val : Nat) : Int) 64 = impTo ((i.val : Nat) : Int) ((j.val : Nat) : Int) 4 := by decide +kernel
theorem same_nb {x y : Int} (h : Ok x y) : nbTo x y 64 = impTo x y 4 := by
  obtain ⟨x0, x7, y0, y7⟩ := h
  have := same_table ⟨x.toNat, by omega⟩ ⟨y.toNat, by omega⟩
  simp only [Int.toNat_of_nonneg x0, Int.toNat_of_nonneg y0] at this
  exact this
theorem none_nb {x y : Int} (h : ¬ Ok x y) (k : Nat) : nbTo x y k = [] := by
  unfold nbTo
  rw [List.map_eq_nil_iff, List.filter_eq_nil_iff]
  intro j _
  rw [nbB_iff]
  exact fun k => h k.1
theorem eight {W : World} {g : Nat} {x y : Int} (h : W.heap[g]? = some (.cells (around x y) 143 (0, 0))) :
    W.cell? ⟨g, 0, none⟩ = some (.int .i64 (wrap64 x)) ∧ W.cell? ⟨g, 1, none⟩ = some (.int .i64 (wrap64 (y + -1))) ∧ W.cell? ⟨g, 2, none⟩ = some (.int .i64 (wrap64 (x + -1))) ∧ W.cell? ⟨g, 3, none⟩ = some (.int .i64 (wrap64 y)) ∧
    W.cell? ⟨g, 4, none⟩ = some (.int .i64 (wrap64 (x + 1))) ∧ W.cell? ⟨g, 5, none⟩ = some (.int .i64 (wrap64 y)) ∧ W.cell? ⟨g, 6, none⟩ = some (.int .i64 (wrap64 x)) ∧ W.cell? ⟨g, 7, none⟩ = some (.int .i64 (wrap64 (y + 1))) :=
  ⟨(cell_of_row _ _ 0 _ _ _ h).trans rfl, (cell_of_row _ _ 1 _ _ _ h).trans rfl, (cell_of_row _ _ 2 _ _ _ h).trans rfl, (cell_of_row _ _ 3 _ _ _ h).trans rfl,
   (cell_of_row _ _ 4 _ _ _ h).trans rfl, (cell_of_row _ _ 5 _ _ _ h).trans rfl, (cell_of_row _ _ 6 _ _ _ h).trans rfl, (cell_of_row _ _ 7 _ _ _ h).trans rfl⟩

theorem at0 (x y : Int) (w : World) : (Instr.index 143 (.agg #[.int .i64 (wrap64 x), .int .i64 (wrap64 (y + -1)), .int .i64 (wrap64 (x + -1)), .int .i64 (wrap64 y), .int .i64 (wrap64 (x + 1)), .int .i64 (wrap64 y), .int .i64 (wrap64 x), .int .i64 (wrap64 (y + 1))]) (.int .i64 0)).run Tryz.prog w = .ok (.agg #[.int .i64 (wrap64 x), .int .i64 (wrap64 (y + -1))]) w := by kernel_rfl
theorem at1 (x y : Int) (w : World) : (Instr.index 143 (.agg #[.int .i64 (wrap64 x), .int .i64 (wrap64 (y + -1)), .int .i64 (wrap64 (x + -1)), .int .i64 (wrap64 y), .int .i64 (wrap64 (x + 1)), .int .i64 (wrap64 y), .int .i64 (wrap64 x), .int .i64 (wrap64 (y + 1))]) (.int .i64 1)).run Tryz.prog w = .ok (.agg #[.int .i64 (wrap64 (x + -1)), .int .i64 (wrap64 y)]) w := by kernel_rfl
theorem at2 (x y : Int) (w : World) : (Instr.index 143 (.agg #[.int .i64 (wrap64 x), .int .i64 (wrap64 (y + -1)), .int .i64 (wrap64 (x + -1)), .int .i64 (wrap64 y), .int .i64 (wrap64 (x + 1)), .int .i64 (wrap64 y), .int .i64 (wrap64 x), .int .i64 (wrap64 (y + 1))]) (.int .i64 2)).run Tryz.prog w = .ok (.agg #[.int .i64 (wrap64 (x + 1)), .int .i64 (wrap64 y)]) w := by kernel_rfl
theorem at3 (x y : Int) (w : World) : (Instr.index 143 (.agg #[.int .i64 (wrap64 x), .int .i64 (wrap64 (y + -1)), .int .i64 (wrap64 (x + -1)), .int .i64 (wrap64 y), .int .i64 (wrap64 (x + 1)), .int .i64 (wrap64 y), .int .i64 (wrap64 x), .int .i64 (wrap64 (y + 1))]) (.int .i64 3)).run Tryz.prog w = .ok (.agg #[.int .i64 (wrap64 x), .int .i64 (wrap64 (y + 1))]) w := by kernel_rfl

set_option maxRecDepth 100000 in
set_option maxHeartbeats 2000000 in
theorem implNb (x y : Int) (w : World) : Calls Tryz.prog 125 #[.agg #[.int .i64 x, .int .i64 y]] w (NbPost (nbTo x y 64) w) := by
  obtain ⟨i0, hi, hz0, hz1, hz2⟩ := info_parts cellInfo
  go_enter Tryz.func125, Tryz.ntmps125
  go_wp2_with fail
  refine (isValid x y _).mono ?_
  rintro e w1 ⟨rfl, hb1⟩
  have T1 := one_start x y w w1 hb1
  clear hb1
  by_cases hok : Ok x y
  · rw [okB_of hok]
    go_wp2_with fail
    refine wp_of_rest (fun Q => ∀ (W : World) (g : Nat), One w x y W → W.heap[g]? = some (.cells (around x y) 143 (0, 0)) → Q .normal { tmps := #[.agg #[.int .i64 x, .int .i64 y], .pointer (some ⟨w.heap.size, 0, none⟩), .slice none 0 0, .pointer (some ⟨g, 0, none⟩), undef, undef, undef, .agg #[.int .i64 x, .int .i64 y], .bool true, .bool false,
          .agg #[.int .i64 x, .int .i64 y], .agg #[.int .i64 (wrap64 x), .int .i64 (wrap64 (y + -1))], .agg #[.int .i64 x, .int .i64 y], .agg #[.int .i64 (wrap64 (x + -1)), .int .i64 (wrap64 y)], .agg #[.int .i64 x, .int .i64 y], .agg #[.int .i64 (wrap64 (x + 1)), .int .i64 (wrap64 y)],
          .agg #[.int .i64 x, .int .i64 y], .agg #[.int .i64 (wrap64 x), .int .i64 (wrap64 (y + 1))], .agg (around x y), undef, undef, undef, undef, undef, undef, undef, undef, undef, undef, undef, undef, undef], defers := [] } W) ?_ ?_
    · clear hi hz0 hz1 hz2
      intro Q R
      have R := Lib.hid R
      go_region_held3 (fun w' => Below w.heap.size w w' ∧ w.heap.size + 1 ≤ w'.heap.size ∧ w'.cell? ⟨w.heap.size, 0, none⟩ = some (.int .i64 x) ∧ w'.cell? ⟨w.heap.size, 1, none⟩ = some (.int .i64 y))
        (first | assumption | exact One.drew (by assumption) | exact One.on (by assumption) (below_alloc2 _ _ _) | exact One.on (by assumption) (below_alloc1 _ _) | exact One.drew (One.on T1 (by (repeat first | exact Below.refl _ _ | refine Below.alloc ?_ (by first | (simp; done) | (simp; omega)) _))))
        (first | (go_at_call 94; refine (moved2 _ _ _ _ _).mono ?_; rintro e wx ⟨rfl, rfl⟩))
      · refine R.out _ (w1.heap.size + 1 + 1 + 1 + 1 + 1 + 1 + 1 + 1) (by assumption) (drewB ?_)
        repeat first | exact newB (by simp) | refine keepB ?_
      · refine R.out _ (w1.heap.size + 1 + 1 + 1 + 1 + 1 + 1) (by assumption) (drewB ?_)
        repeat first | exact newB (by simp) | refine keepB ?_
      · refine R.out _ (w1.heap.size + 1 + 1 + 1 + 1) (by assumption) (drewB ?_)
        repeat first | exact newB (by simp) | refine keepB ?_
      · refine R.out _ (w1.heap.size + 1 + 1) (by assumption) (drewB ?_)
        repeat first | exact newB (by simp) | refine keepB ?_
      · refine R.out _ (w1.heap.size) (by assumption) (drewB ?_)
        repeat first | exact newB (by simp) | refine keepB ?_
    · intro W g T2 hA
      have HA := Lib.hid hA
      have hgs := (Array.getElem?_eq_some_iff.1 hA).1
      have hbW := T2.1
      have hsW := T2.2.1
      have HS := Lib.hid (same_nb hok)
      have HT := Lib.hid (show (around4 x y)[0]? = some (wrap64 x, wrap64 (y + -1)) ∧ (around4 x y)[1]? = some (wrap64 (x + -1), wrap64 y) ∧ (around4 x y)[2]? = some (wrap64 (x + 1), wrap64 y) ∧ (around4 x y)[3]? = some (wrap64 x, wrap64 (y + 1)) from ⟨rfl, rfl, rfl, rfl⟩)
      clear hA T2
      go_wp2_with (first
        | (at_make; refine wpList_make_own _ rfl _ _ 67 rfl w.heap.size 60 i0 (.agg #[.int .i64 0, .int .i64 0]) 2 Tryz.underlying67 hi hz0 hz1 .i64 .i64 4 4 rfl rfl (by omega) (by rw [hz2]; omega) (by unfold maxLen; omega) (by omega) ?_; intro w3 hown3 hg3; obtain ⟨q0, q1, q2, q3, q4, q5, q6, q7⟩ := eight ((hg3.block g hgs (by simp)).trans HA.out)))
      have hb3 : Below w.heap.size w w3 := hbW.grown hg3 (by omega) (by simp)
      have HO := Lib.hid hown3
      clear q0 q1 q2 q3 q4 q5 q6 q7 hown3 hg3 HA hbW
      go_loopw [4, 21] (fun v i wr => ∃ k : Nat, k ≤ 4 ∧ i = .int .i64 k ∧ wr.ownsRow w.heap.size 60 2 v (impTo x y k).length (rowC (impTo x y k)) ∧ Below w.heap.size w wr) (fun _ i _ => 4 - (intOf i).toNat)
      case atStart => exact ⟨0, Nat.zero_le _, rfl, HO.out, hb3⟩
      case round =>
        clear HO hb3
        obtain ⟨k, hk, rfl, hown, hb⟩ := hrel
        have hbs := hb.size
        have hcs : k = 0 ∨ k = 1 ∨ k = 2 ∨ k = 3 ∨ k = 4 := by omega
        obtain ⟨t0, t1, t2, t3⟩ := HT.out
        rcases hcs with rfl | rfl | rfl | rfl | rfl
        · have hix := at0 x y
          rw [show ((0 : Nat) : Int) = 0 from rfl]
          go_wp2_with fail
          refine (isValid (wrap64 x) (wrap64 (y + -1)) _).mono ?_
          rintro e w2 ⟨rfl, hb2⟩
          clear hix
          have HStep := Lib.hid t0
          clear t0 t1 t2 t3
          obtain ⟨hc2, hc3⟩ := bx2 _ _ wr w2 hb2
          have hE : Below wr.heap.size wr w2 := (below_alloc1 wr _).trans (hb2.mono (by simp))
          have HD := Lib.hid (hb.trans (hE.mono hbs))
          have HOwn2 := Lib.hid (own_below hown hE)
          have hzz : wr.heap.size < w2.heap.size := by have := hb2.size; simp at this; omega
          clear hE hb2 hown hb
          cases hn : okB (wrap64 x) (wrap64 (y + -1)) with
          | false =>
            have HN := Lib.hid (impTo_no HStep.out hn)
            clear hn
            go_wp2
            go_roundw
            case rel => exact ⟨0 + 1, by omega, rfl, by rw [HN.out]; exact HOwn2.out, HD.out⟩
            case measure => (simp [intOf] <;> omega)
          | true =>
            have HN := Lib.hid (impTo_yes HStep.out hn)
            have HL := Lib.hid (impTo_length x y 0)
            clear hn
            go_wp2_with (first
              | (at_builtin; refine wpList_append_own _ rfl _ _ 67 rfl w.heap.size 60 i0 (.agg #[.int .i64 0, .int .i64 0]) 2 16 Tryz.underlying67 hi hz0 hz1 hz2 rfl (by decide) _ (impTo x y 0).length (rowC (impTo x y 0)) rfl (HOwn2.out.alloc _) ⟨w2.heap.size, 0, none⟩ 1 1 [.int .i64 (wrap64 x), .int .i64 (wrap64 (y + -1))] rfl rfl (World.news_of_block (cs := #[.int .i64 (wrap64 x), .int .i64 (wrap64 (y + -1))]) (t := 60) (fr := (0, 0)) (heap_alloc_new w2 _)) (by simp [Value.oneCell']) (by have := HL.out; unfold maxLen; omega) (by have := HL.out; omega) (by simp; omega) ?_; intro v2 w3 hown3 hgrow _))
            have hb3 : Below w.heap.size w w3 := (HD.out.alloc (by omega) _).grown hgrow (by simp; omega) (fun g hg => (HOwn2.out.lt g hg).1)
            have R := Lib.hid (show w3.ownsRow w.heap.size 60 2 v2 (impTo x y (0 + 1)).length (rowC (impTo x y (0 + 1))) by
              rw [HN.out, rowC_snoc, List.length_append]; exact hown3)
            clear hown3 hgrow
            go_wp2
            go_roundw
            case rel => exact ⟨0 + 1, by omega, rfl, R.out, hb3⟩
            case measure => (simp [intOf] <;> omega)
        · have hix := at1 x y
          rw [show ((1 : Nat) : Int) = 1 from rfl]
          go_wp2_with fail
          refine (isValid (wrap64 (x + -1)) (wrap64 y) _).mono ?_
          rintro e w2 ⟨rfl, hb2⟩
          clear hix
          have HStep := Lib.hid t1
          clear t0 t1 t2 t3
          obtain ⟨hc2, hc3⟩ := bx2 _ _ wr w2 hb2
          have hE : Below wr.heap.size wr w2 := (below_alloc1 wr _).trans (hb2.mono (by simp))
          have HD := Lib.hid (hb.trans (hE.mono hbs))
          have HOwn2 := Lib.hid (own_below hown hE)
          have hzz : wr.heap.size < w2.heap.size := by have := hb2.size; simp at this; omega
          clear hE hb2 hown hb
          cases hn : okB (wrap64 (x + -1)) (wrap64 y) with
          | false =>
            have HN := Lib.hid (impTo_no HStep.out hn)
            clear hn
            go_wp2
            go_roundw
            case rel => exact ⟨1 + 1, by omega, rfl, by rw [HN.out]; exact HOwn2.out, HD.out⟩
            case measure => (simp [intOf] <;> omega)
          | true =>
            have HN := Lib.hid (impTo_yes HStep.out hn)
            have HL := Lib.hid (impTo_length x y 1)
            clear hn
            go_wp2_with (first
              | (at_builtin; refine wpList_append_own _ rfl _ _ 67 rfl w.heap.size 60 i0 (.agg #[.int .i64 0, .int .i64 0]) 2 16 Tryz.underlying67 hi hz0 hz1 hz2 rfl (by decide) _ (impTo x y 1).length (rowC (impTo x y 1)) rfl (HOwn2.out.alloc _) ⟨w2.heap.size, 0, none⟩ 1 1 [.int .i64 (wrap64 (x + -1)), .int .i64 (wrap64 y)] rfl rfl (World.news_of_block (cs := #[.int .i64 (wrap64 (x + -1)), .int .i64 (wrap64 y)]) (t := 60) (fr := (0, 0)) (heap_alloc_new w2 _)) (by simp [Value.oneCell']) (by have := HL.out; unfold maxLen; omega) (by have := HL.out; omega) (by simp; omega) ?_; intro v2 w3 hown3 hgrow _))
            have hb3 : Below w.heap.size w w3 := (HD.out.alloc (by omega) _).grown hgrow (by simp; omega) (fun g hg => (HOwn2.out.lt g hg).1)
            have R := Lib.hid (show w3.ownsRow w.heap.size 60 2 v2 (impTo x y (1 + 1)).length (rowC (impTo x y (1 + 1))) by
              rw [HN.out, rowC_snoc, List.length_append]; exact hown3)
            clear hown3 hgrow
            go_wp2
            go_roundw
            case rel => exact ⟨1 + 1, by omega, rfl, R.out, hb3⟩
            case measure => (simp [intOf] <;> omega)
        · have hix := at2 x y
          rw [show ((2 : Nat) : Int) = 2 from rfl]
          go_wp2_with fail
          refine (isValid (wrap64 (x + 1)) (wrap64 y) _).mono ?_
          rintro e w2 ⟨rfl, hb2⟩
          clear hix
          have HStep := Lib.hid t2
          clear t0 t1 t2 t3
          obtain ⟨hc2, hc3⟩ := bx2 _ _ wr w2 hb2
          have hE : Below wr.heap.size wr w2 := (below_alloc1 wr _).trans (hb2.mono (by simp))
          have HD := Lib.hid (hb.trans (hE.mono hbs))
          have HOwn2 := Lib.hid (own_below hown hE)
          have hzz : wr.heap.size < w2.heap.size := by have := hb2.size; simp at this; omega
          clear hE hb2 hown hb
          cases hn : okB (wrap64 (x + 1)) (wrap64 y) with
          | false =>
            have HN := Lib.hid (impTo_no HStep.out hn)
            clear hn
            go_wp2
            go_roundw
            case rel => exact ⟨2 + 1, by omega, rfl, by rw [HN.out]; exact HOwn2.out, HD.out⟩
            case measure => (simp [intOf] <;> omega)
          | true =>
            have HN := Lib.hid (impTo_yes HStep.out hn)
            have HL := Lib.hid (impTo_length x y 2)
            clear hn
            go_wp2_with (first
              | (at_builtin; refine wpList_append_own _ rfl _ _ 67 rfl w.heap.size 60 i0 (.agg #[.int .i64 0, .int .i64 0]) 2 16 Tryz.underlying67 hi hz0 hz1 hz2 rfl (by decide) _ (impTo x y 2).length (rowC (impTo x y 2)) rfl (HOwn2.out.alloc _) ⟨w2.heap.size, 0, none⟩ 1 1 [.int .i64 (wrap64 (x + 1)), .int .i64 (wrap64 y)] rfl rfl (World.news_of_block (cs := #[.int .i64 (wrap64 (x + 1)), .int .i64 (wrap64 y)]) (t := 60) (fr := (0, 0)) (heap_alloc_new w2 _)) (by simp [Value.oneCell']) (by have := HL.out; unfold maxLen; omega) (by have := HL.out; omega) (by simp; omega) ?_; intro v2 w3 hown3 hgrow _))
            have hb3 : Below w.heap.size w w3 := (HD.out.alloc (by omega) _).grown hgrow (by simp; omega) (fun g hg => (HOwn2.out.lt g hg).1)
            have R := Lib.hid (show w3.ownsRow w.heap.size 60 2 v2 (impTo x y (2 + 1)).length (rowC (impTo x y (2 + 1))) by
              rw [HN.out, rowC_snoc, List.length_append]; exact hown3)
            clear hown3 hgrow
            go_wp2
            go_roundw
            case rel => exact ⟨2 + 1, by omega, rfl, R.out, hb3⟩
            case measure => (simp [intOf] <;> omega)
        · have hix := at3 x y
          rw [show ((3 : Nat) : Int) = 3 from rfl]
          go_wp2_with fail
          refine (isValid (wrap64 x) (wrap64 (y + 1)) _).mono ?_
          rintro e w2 ⟨rfl, hb2⟩
          clear hix
          have HStep := Lib.hid t3
          clear t0 t1 t2 t3
          obtain ⟨hc2, hc3⟩ := bx2 _ _ wr w2 hb2
          have hE : Below wr.heap.size wr w2 := (below_alloc1 wr _).trans (hb2.mono (by simp))
          have HD := Lib.hid (hb.trans (hE.mono hbs))
          have HOwn2 := Lib.hid (own_below hown hE)
          have hzz : wr.heap.size < w2.heap.size := by have := hb2.size; simp at this; omega
          clear hE hb2 hown hb
          cases hn : okB (wrap64 x) (wrap64 (y + 1)) with
          | false =>
            have HN := Lib.hid (impTo_no HStep.out hn)
            clear hn
            go_wp2
            go_roundw
            case rel => exact ⟨3 + 1, by omega, rfl, by rw [HN.out]; exact HOwn2.out, HD.out⟩
            case measure => (simp [intOf] <;> omega)
          | true =>
            have HN := Lib.hid (impTo_yes HStep.out hn)
            have HL := Lib.hid (impTo_length x y 3)
            clear hn
            go_wp2_with (first
              | (at_builtin; refine wpList_append_own _ rfl _ _ 67 rfl w.heap.size 60 i0 (.agg #[.int .i64 0, .int .i64 0]) 2 16 Tryz.underlying67 hi hz0 hz1 hz2 rfl (by decide) _ (impTo x y 3).length (rowC (impTo x y 3)) rfl (HOwn2.out.alloc _) ⟨w2.heap.size, 0, none⟩ 1 1 [.int .i64 (wrap64 x), .int .i64 (wrap64 (y + 1))] rfl rfl (World.news_of_block (cs := #[.int .i64 (wrap64 x), .int .i64 (wrap64 (y + 1))]) (t := 60) (fr := (0, 0)) (heap_alloc_new w2 _)) (by simp [Value.oneCell']) (by have := HL.out; unfold maxLen; omega) (by have := HL.out; omega) (by simp; omega) ?_; intro v2 w3 hown3 hgrow _))
            have hb3 : Below w.heap.size w w3 := (HD.out.alloc (by omega) _).grown hgrow (by simp; omega) (fun g hg => (HOwn2.out.lt g hg).1)
            have R := Lib.hid (show w3.ownsRow w.heap.size 60 2 v2 (impTo x y (3 + 1)).length (rowC (impTo x y (3 + 1))) by
              rw [HN.out, rowC_snoc, List.length_append]; exact hown3)
            clear hown3 hgrow
            go_wp2
            go_roundw
            case rel => exact ⟨3 + 1, by omega, rfl, R.out, hb3⟩
            case measure => (simp [intOf] <;> omega)
        · obtain ⟨A, cap, rfl⟩ := own_shape hown
          have HOwn := Lib.hid hown
          clear hown t0 t1 t2 t3
          rw [show ((4 : Nat) : Int) = 4 from rfl]
          go_wp2
          go_ret
          rw [HS.out]
          exact ⟨A, cap, rfl, HOwn.out, hb⟩
  · rw [okB_not hok]
    have HN := Lib.hid (none_nb hok 64)
    have hbw := T1.1
    clear T1
    go_wp2
    go_ret
    rw [HN.out]
    exact ⟨none, 0, rfl, ⟨rfl, .inl ⟨rfl, rfl⟩⟩, hbw⟩
end Go.Proofs.YtmajllgfmclcoaaGreat.Nb

namespace Go.Proofs.YtmajllgfmclcoaaGreat.Cels
set_option linter.unusedVariables false
open Go.RowKit Go.Proofs.YtmajllgfmclcoaaGreat.Base Go.Joins

def rowC (L : List (Int × Int)) : List Value := L.flatMap fun p => [.int .i64 p.1, .int .i64 p.2]
theorem rowC_snoc (L : List (Int × Int)) (p : Int × Int) : rowC (L ++ [p]) = rowC L ++ [.int .i64 p.1, .int .i64 p.2] := by unfold rowC; simp
theorem rowC_length (L : List (Int × Int)) : (rowC L).length = L.length * 2 := by
 induction L with
 | nil => rfl
 | cons p L ih => unfold rowC at ih ⊢; simp [ih]; omega
def NbPost (L : List (Int × Int)) (w : World) (e : Ending) (w' : World) : Prop :=
 ∃ (A : Option Addr) (cap : Nat), e = .returned (.slice A L.length cap) ∧ w'.ownsRow w.heap.size 60 2 (.slice A L.length cap) L.length (rowC L) ∧ Below w.heap.size w w'

theorem cellInfo : (Tryz.prog.info? 60).map (fun i => (i.zero, i.size, i.bytes)) = some (some (.agg #[.int .i64 0, .int .i64 0]), 2, 16) := by kernel_rfl

theorem rowC_at (L : List (Int × Int)) : ∀ (j : Nat) (p : Int × Int), L[j]? = some p → (rowC L)[j * 2]? = some (.int .i64 p.1) ∧ (rowC L)[j * 2 + 1]? = some (.int .i64 p.2) := by
 induction L with
 | nil => intro j p h; simp at h
 | cons q L ih =>
  intro j p h
  have e : rowC (q :: L) = .int .i64 q.1 :: .int .i64 q.2 :: rowC L := rfl
  rw [e]
  cases j with
  | zero => simp at h; subst h; exact ⟨rfl, rfl⟩
  | succ j =>
   have h' : L[j]? = some p := by simpa using h
   rw [show (j + 1) * 2 = j * 2 + 1 + 1 from by omega]
   exact ih j p h'
def RowC (w : World) (A : Option Addr) (L : List (Int × Int)) : Prop :=
 ∃ b off : Nat, (0 < L.length → A = some ⟨b, off, none⟩ ∧ b < w.heap.size) ∧ ∀ j p, L[j]? = some p → w.cell? ⟨b, off + j * 2, none⟩ = some (.int .i64 p.1) ∧ w.cell? ⟨b, off + j * 2 + 1, none⟩ = some (.int .i64 p.2)
theorem rowC_own {w : World} {base e n cap : Nat} {A : Option Addr} {L : List (Int × Int)} (h : w.ownsRow base e 2 (.slice A n cap) n (rowC L)) : RowC w A L := by
 have hn : L.length = n := by have := h.1; rw [rowC_length] at this; omega
 by_cases h0 : L.length = 0
 ·have : L = [] := List.eq_nil_of_length_eq_zero h0
  subst this
  exact ⟨0, 0, fun h => by simp at h, fun j u hu => by simp at hu⟩
 ·obtain ⟨g, c, hv, _, hlt⟩ := h.form (by omega)
  injection hv with hA
  subst hA
  refine ⟨g, 0, fun _ => ⟨rfl, hlt⟩, fun j p hp => ?_⟩
  obtain ⟨h1, h2⟩ := rowC_at L j p hp
  have c1 := h.cells (g := g) rfl _ _ h1
  have c2 := h.cells (g := g) rfl _ _ h2
  rw [add_plain] at c1 c2
  simp only [Nat.zero_add]
  exact ⟨c1, c2⟩
end Go.Proofs.YtmajllgfmclcoaaGreat.Cels
