/- NbI in one text. -/
import Derived.Test.YtjfagpmklifjlaaMg18
import Derived.Deep.DeepAppendRoom
import Derived.Deep.RegionHeld3

namespace Go.Proofs.Ytjfagpmklifjlaa.Nb
set_option linter.unusedVariables false
open Go.RowKit Go.Proofs.Ytjfagpmklifjlaa.Base Go.Proofs.Ytjfagpmklifjlaa.Cell Go.Joins

def One (w : World) (x y : Int) (w' : World) : Prop :=
  Below w.heap.size w w' ∧ w.heap.size + 1 ≤ w'.heap.size ∧ w'.cell? ⟨w.heap.size, 0, none⟩ = some (.int .i64 x) ∧ w'.cell? ⟨w.heap.size, 1, none⟩ = some (.int .i64 y)
theorem One.on {w W W' : World} {x y : Int} (h : One w x y W) (hb : Below W.heap.size W W') : One w x y W' := by
  obtain ⟨h0, h1, h2, h3⟩ := h
  have hz := hb.size
  refine ⟨h0.trans (hb.mono h0.size), by omega, ?_, ?_⟩
  · rw [hb.cell (by show w.heap.size < _; omega)]; exact h2
  · rw [hb.cell (by show w.heap.size < _; omega)]; exact h3
theorem One.drew {w W : World} {x y : Int} (h : One w x y W) : One w x y W.drew := ⟨h.1.drew, h.2⟩
theorem one_start {T : TypeId} (x y : Int) (w w1 : World) (h : Below (w.alloc (.cells #[.int .i64 x, .int .i64 y] T)).heap.size (w.alloc (.cells #[.int .i64 x, .int .i64 y] T)) w1) : One w x y w1 := by
  obtain ⟨a, b⟩ := bx2 x y w w1 h
  exact ⟨(below_alloc1 w _).trans (h.mono (by simp)), by have := h.size; simp at this; omega, a, b⟩

theorem wp_of_rest {P : Program} {c : Code} {Q : Exit → Act → World → Prop} {a : Act} {w : World} (R : (Exit → Act → World → Prop) → Prop) (h : ∀ Q, R Q → c.wp P Q a w) (k : R Q) : c.wp P Q a w := h Q k

set_option maxHeartbeats 400000 in
theorem moved2 (x y a b : Int) (w : World) :
    Calls Try.prog 83 #[.agg #[.int .i64 x, .int .i64 y], .int .i64 a, .int .i64 b] w fun e w' => e = .returned (.agg #[.int .i64 (wrap64 (x + a)), .int .i64 (wrap64 (y + b))]) ∧
      w' = ((w.alloc (.cells #[.int .i64 x, .int .i64 y] 38)).alloc (.cells #[.int .i64 (wrap64 (x + a)), .int .i64 (wrap64 (y + b))] 38)) := by
  go_enter Try.func83, Try.ntmps83
  go_wp2
  exact bodyPost_ret (v := .agg #[.int .i64 (wrap64 (x + a)), .int .i64 (wrap64 (y + b))]) (by simp [results, Try.results83, go_sem]) rfl ⟨rfl, rfl⟩

theorem keepB {W : World} {o ob : Obj} {g : Nat} (h : W.heap[g]? = some ob) : (W.alloc o).heap[g]? = some ob := by
  show (W.heap.push o)[g]? = some ob
  have hl := (Array.getElem?_eq_some_iff.1 h).1
  rw [Array.getElem?_push_lt hl, ← h]
  exact (Array.getElem?_eq_getElem hl).symm
theorem newB {W : World} {o : Obj} {g : Nat} (h : g = W.heap.size) : (W.alloc o).heap[g]? = some o := by
  subst h
  exact (show (W.heap.push o)[W.heap.size]? = some o from Array.getElem?_push_size)
theorem drewB {W : World} {o : Obj} {g : Nat} (h : W.heap[g]? = some o) : W.drew.heap[g]? = some o := h
def around (x y : Int) : Array Value := #[.int .i64 (wrap64 x), .int .i64 (wrap64 (y + -1)), .int .i64 (wrap64 (x + -1)), .int .i64 (wrap64 y), .int .i64 (wrap64 (x + 1)), .int .i64 (wrap64 y), .int .i64 (wrap64 x), .int .i64 (wrap64 (y + 1))]

def around4 (x y : Int) : List (Int × Int) := [(wrap64 x, wrap64 (y + -1)), (wrap64 (x + -1), wrap64 y), (wrap64 (x + 1), wrap64 y), (wrap64 x, wrap64 (y + 1))]
def impTo (x y : Int) (k : Nat) : List (Int × Int) := ((around4 x y).take k).filter fun p => okB p.1 p.2
theorem impTo_yes {x y u v : Int} {k : Nat} (h : (around4 x y)[k]? = some (u, v)) (ho : okB u v = true) : impTo x y (k + 1) = impTo x y k ++ [(u, v)] := by
  unfold impTo; rw [List.take_add_one, h, List.filter_append]; simp [ho]
theorem impTo_no {x y u v : Int} {k : Nat} (h : (around4 x y)[k]? = some (u, v)) (ho : okB u v = false) : impTo x y (k + 1) = impTo x y k := by
  unfold impTo; rw [List.take_add_one, h, List.filter_append]; simp [ho]
theorem impTo_length (x y : Int) (k : Nat) : (impTo x y k).length ≤ 4 := by
  unfold impTo
  exact Nat.le_trans (List.length_filter_le _ _) (by rw [List.length_take]; exact Nat.min_le_right _ _)
theorem same_table : ∀ i j : Fin 8, nbTo ((i.val : Nat) : Int) ((j.val : Nat) : Int) 64 = impTo ((i.val : Nat) : Int) ((j.val : Nat) : Int) 4 := by decide +kernel
theorem same_nb {x y : Int} (h : Ok x y) : nbTo x y 64 = impTo x y 4 := by
  obtain ⟨x0, x7, y0, y7⟩ := h
  have := same_table ⟨x.toNat, by omega⟩ ⟨y.toNat, by omega⟩
  simp only [Int.toNat_of_nonneg x0, Int.toNat_of_nonneg y0] at this
  exact this
theorem none_nb {x y : Int} (h : ¬ Ok x y) (k : Nat) : nbTo x y k = [] := by
  unfold nbTo
  rw [List.map_eq_nil_iff, List.filter_eq_nil_iff]
  intro j _
  rw [nbB_iff]
  exact fun k => h k.1
theorem eight {W : World} {g : Nat} {x y : Int} (h : W.heap[g]? = some (.cells (around x y) 100 (0, 0))) :
    W.cell? ⟨g, 0, none⟩ = some (.int .i64 (wrap64 x)) ∧ W.cell? ⟨g, 1, none⟩ = some (.int .i64 (wrap64 (y + -1))) ∧ W.cell? ⟨g, 2, none⟩ = some (.int .i64 (wrap64 (x + -1))) ∧ W.cell? ⟨g, 3, none⟩ = some (.int .i64 (wrap64 y)) ∧
    W.cell? ⟨g, 4, none⟩ = some (.int .i64 (wrap64 (x + 1))) ∧ W.cell? ⟨g, 5, none⟩ = some (.int .i64 (wrap64 y)) ∧ W.cell? ⟨g, 6, none⟩ = some (.int .i64 (wrap64 x)) ∧ W.cell? ⟨g, 7, none⟩ = some (.int .i64 (wrap64 (y + 1))) :=
  ⟨(cell_of_row _ _ 0 _ _ _ h).trans rfl, (cell_of_row _ _ 1 _ _ _ h).trans rfl, (cell_of_row _ _ 2 _ _ _ h).trans rfl, (cell_of_row _ _ 3 _ _ _ h).trans rfl,
   (cell_of_row _ _ 4 _ _ _ h).trans rfl, (cell_of_row _ _ 5 _ _ _ h).trans rfl, (cell_of_row _ _ 6 _ _ _ h).trans rfl, (cell_of_row _ _ 7 _ _ _ h).trans rfl⟩

theorem at0 (x y : Int) (w : World) : (Instr.index 100 (.agg #[.int .i64 (wrap64 x), .int .i64 (wrap64 (y + -1)), .int .i64 (wrap64 (x + -1)), .int .i64 (wrap64 y), .int .i64 (wrap64 (x + 1)), .int .i64 (wrap64 y), .int .i64 (wrap64 x), .int .i64 (wrap64 (y + 1))]) (.int .i64 0)).run Try.prog w = .ok (.agg #[.int .i64 (wrap64 x), .int .i64 (wrap64 (y + -1))]) w := by kernel_rfl
theorem at1 (x y : Int) (w : World) : (Instr.index 100 (.agg #[.int .i64 (wrap64 x), .int .i64 (wrap64 (y + -1)), .int .i64 (wrap64 (x + -1)), .int .i64 (wrap64 y), .int .i64 (wrap64 (x + 1)), .int .i64 (wrap64 y), .int .i64 (wrap64 x), .int .i64 (wrap64 (y + 1))]) (.int .i64 1)).run Try.prog w = .ok (.agg #[.int .i64 (wrap64 (x + -1)), .int .i64 (wrap64 y)]) w := by kernel_rfl
theorem at2 (x y : Int) (w : World) : (Instr.index 100 (.agg #[.int .i64 (wrap64 x), .int .i64 (wrap64 (y + -1)), .int .i64 (wrap64 (x + -1)), .int .i64 (wrap64 y), .int .i64 (wrap64 (x + 1)), .int .i64 (wrap64 y), .int .i64 (wrap64 x), .int .i64 (wrap64 (y + 1))]) (.int .i64 2)).run Try.prog w = .ok (.agg #[.int .i64 (wrap64 (x + 1)), .int .i64 (wrap64 y)]) w := by kernel_rfl
theorem at3 (x y : Int) (w : World) : (Instr.index 100 (.agg #[.int .i64 (wrap64 x), .int .i64 (wrap64 (y + -1)), .int .i64 (wrap64 (x + -1)), .int .i64 (wrap64 y), .int .i64 (wrap64 (x + 1)), .int .i64 (wrap64 y), .int .i64 (wrap64 x), .int .i64 (wrap64 (y + 1))]) (.int .i64 3)).run Try.prog w = .ok (.agg #[.int .i64 (wrap64 x), .int .i64 (wrap64 (y + 1))]) w := by kernel_rfl

set_option maxRecDepth 100000 in
set_option maxHeartbeats 2000000 in
theorem implNb (x y : Int) (w : World) : Calls Try.prog 52 #[.agg #[.int .i64 x, .int .i64 y]] w (NbPost (nbTo x y 64) w) := by
  obtain ⟨i0, hi, hz0, hz1, hz2⟩ := info_parts cellInfo
  go_enter Try.func52, Try.ntmps52
  go_wp2_with fail
  refine (isValid x y _).mono ?_
  rintro e w1 ⟨rfl, hb1⟩
  have T1 := one_start x y w w1 hb1
  clear hb1
  by_cases hok : Ok x y
  · rw [okB_of hok]
    go_wp2_with fail
    refine wp_of_rest (fun Q => ∀ (W : World) (g : Nat), One w x y W → W.heap[g]? = some (.cells (around x y) 100 (0, 0)) → Q .normal { tmps := #[.agg #[.int .i64 x, .int .i64 y], .pointer (some ⟨w.heap.size, 0, none⟩), .slice none 0 0, .pointer (some ⟨g, 0, none⟩), undef, undef, undef, .agg #[.int .i64 x, .int .i64 y], .bool true, .bool false,
          .agg #[.int .i64 x, .int .i64 y], .agg #[.int .i64 (wrap64 x), .int .i64 (wrap64 (y + -1))], .agg #[.int .i64 x, .int .i64 y], .agg #[.int .i64 (wrap64 (x + -1)), .int .i64 (wrap64 y)], .agg #[.int .i64 x, .int .i64 y], .agg #[.int .i64 (wrap64 (x + 1)), .int .i64 (wrap64 y)],
          .agg #[.int .i64 x, .int .i64 y], .agg #[.int .i64 (wrap64 x), .int .i64 (wrap64 (y + 1))], .agg (around x y), undef, undef, undef, undef, undef, undef, undef, undef, undef, undef, undef, undef, undef], defers := [] } W) ?_ ?_
    · clear hi hz0 hz1 hz2
      intro Q R
      have R := Lib.hid R
      go_region_held3 (fun w' => Below w.heap.size w w' ∧ w.heap.size + 1 ≤ w'.heap.size ∧ w'.cell? ⟨w.heap.size, 0, none⟩ = some (.int .i64 x) ∧ w'.cell? ⟨w.heap.size, 1, none⟩ = some (.int .i64 y))
        (first | assumption | exact One.drew (by assumption) | exact One.on (by assumption) (below_alloc2 _ _ _) | exact One.on (by assumption) (below_alloc1 _ _) | exact One.drew (One.on T1 (by (repeat first | exact Below.refl _ _ | refine Below.alloc ?_ (by first | (simp; done) | (simp; omega)) _))))
        (first | (go_at_call 83; refine (moved2 _ _ _ _ _).mono ?_; rintro e wx ⟨rfl, rfl⟩))
      · refine R.out _ (w1.heap.size + 1 + 1 + 1 + 1 + 1 + 1 + 1 + 1) (by assumption) (drewB ?_)
        repeat first | exact newB (by simp) | refine keepB ?_
      · refine R.out _ (w1.heap.size + 1 + 1 + 1 + 1 + 1 + 1) (by assumption) (drewB ?_)
        repeat first | exact newB (by simp) | refine keepB ?_
      · refine R.out _ (w1.heap.size + 1 + 1 + 1 + 1) (by assumption) (drewB ?_)
        repeat first | exact newB (by simp) | refine keepB ?_
      · refine R.out _ (w1.heap.size + 1 + 1) (by assumption) (drewB ?_)
        repeat first | exact newB (by simp) | refine keepB ?_
      · refine R.out _ (w1.heap.size) (by assumption) (drewB ?_)
        repeat first | exact newB (by simp) | refine keepB ?_
    · intro W g T2 hA
      have HA := Lib.hid hA
      have hgs := (Array.getElem?_eq_some_iff.1 hA).1
      have hbW := T2.1
      have hsW := T2.2.1
      have HS := Lib.hid (same_nb hok)
      have HT := Lib.hid (show (around4 x y)[0]? = some (wrap64 x, wrap64 (y + -1)) ∧ (around4 x y)[1]? = some (wrap64 (x + -1), wrap64 y) ∧ (around4 x y)[2]? = some (wrap64 (x + 1), wrap64 y) ∧ (around4 x y)[3]? = some (wrap64 x, wrap64 (y + 1)) from ⟨rfl, rfl, rfl, rfl⟩)
      clear hA T2
      go_wp2_with (first
        | (at_make; refine wpList_make_own _ rfl _ _ 34 rfl w.heap.size 38 i0 (.agg #[.int .i64 0, .int .i64 0]) 2 Try.underlying34 hi hz0 hz1 .i64 .i64 4 4 rfl rfl (by omega) (by rw [hz2]; omega) (by unfold maxLen; omega) (by omega) ?_; intro w3 hown3 hg3; obtain ⟨q0, q1, q2, q3, q4, q5, q6, q7⟩ := eight ((hg3.block g hgs (by simp)).trans HA.out)))
      have hb3 : Below w.heap.size w w3 := hbW.grown hg3 (by omega) (by simp)
      have HO := Lib.hid hown3
      clear q0 q1 q2 q3 q4 q5 q6 q7 hown3 hg3 HA hbW
      go_loopw [4, 21] (fun v i wr => ∃ k : Nat, k ≤ 4 ∧ i = .int .i64 k ∧ wr.ownsRow w.heap.size 38 2 v (impTo x y k).length (rowC (impTo x y k)) ∧ Below w.heap.size w wr) (fun _ i _ => 4 - (intOf i).toNat)
      case atStart => exact ⟨0, Nat.zero_le _, rfl, HO.out, hb3⟩
      case round =>
        clear HO hb3
        obtain ⟨k, hk, rfl, hown, hb⟩ := hrel
        have hbs := hb.size
        have hcs : k = 0 ∨ k = 1 ∨ k = 2 ∨ k = 3 ∨ k = 4 := by omega
        obtain ⟨t0, t1, t2, t3⟩ := HT.out
        rcases hcs with rfl | rfl | rfl | rfl | rfl
        · have hix := at0 x y
          rw [show ((0 : Nat) : Int) = 0 from rfl]
          go_wp2_with fail
          refine (isValid (wrap64 x) (wrap64 (y + -1)) _).mono ?_
          rintro e w2 ⟨rfl, hb2⟩
          clear hix
          have HStep := Lib.hid t0
          clear t0 t1 t2 t3
          obtain ⟨hc2, hc3⟩ := bx2 _ _ wr w2 hb2
          have hE : Below wr.heap.size wr w2 := (below_alloc1 wr _).trans (hb2.mono (by simp))
          have HD := Lib.hid (hb.trans (hE.mono hbs))
          have HOwn2 := Lib.hid (own_below hown hE)
          have hzz : wr.heap.size < w2.heap.size := by have := hb2.size; simp at this; omega
          clear hE hb2 hown hb
          cases hn : okB (wrap64 x) (wrap64 (y + -1)) with
          | false =>
            have HN := Lib.hid (impTo_no HStep.out hn)
            clear hn
            go_wp2
            go_roundw
            case rel => exact ⟨0 + 1, by omega, rfl, by rw [HN.out]; exact HOwn2.out, HD.out⟩
            case measure => (simp [intOf] <;> omega)
          | true =>
            have HN := Lib.hid (impTo_yes HStep.out hn)
            have HL := Lib.hid (impTo_length x y 0)
            clear hn
            go_wp2_with (first
              | (at_builtin; refine wpList_append_own _ rfl _ _ 34 rfl w.heap.size 38 i0 (.agg #[.int .i64 0, .int .i64 0]) 2 16 Try.underlying34 hi hz0 hz1 hz2 rfl (by decide) _ (impTo x y 0).length (rowC (impTo x y 0)) rfl (HOwn2.out.alloc _) ⟨w2.heap.size, 0, none⟩ 1 1 [.int .i64 (wrap64 x), .int .i64 (wrap64 (y + -1))] rfl rfl (World.news_of_block (cs := #[.int .i64 (wrap64 x), .int .i64 (wrap64 (y + -1))]) (t := 38) (fr := (0, 0)) (heap_alloc_new w2 _)) (by simp [Value.oneCell']) (by have := HL.out; unfold maxLen; omega) (by have := HL.out; omega) (by simp; omega) ?_; intro v2 w3 hown3 hgrow _))
            have hb3 : Below w.heap.size w w3 := (HD.out.alloc (by omega) _).grown hgrow (by simp; omega) (fun g hg => (HOwn2.out.lt g hg).1)
            have R := Lib.hid (show w3.ownsRow w.heap.size 38 2 v2 (impTo x y (0 + 1)).length (rowC (impTo x y (0 + 1))) by
              rw [HN.out, rowC_snoc, List.length_append]; exact hown3)
            clear hown3 hgrow
            go_wp2
            go_roundw
            case rel => exact ⟨0 + 1, by omega, rfl, R.out, hb3⟩
            case measure => (simp [intOf] <;> omega)
        · have hix := at1 x y
          rw [show ((1 : Nat) : Int) = 1 from rfl]
          go_wp2_with fail
          refine (isValid (wrap64 (x + -1)) (wrap64 y) _).mono ?_
          rintro e w2 ⟨rfl, hb2⟩
          clear hix
          have HStep := Lib.hid t1
          clear t0 t1 t2 t3
          obtain ⟨hc2, hc3⟩ := bx2 _ _ wr w2 hb2
          have hE : Below wr.heap.size wr w2 := (below_alloc1 wr _).trans (hb2.mono (by simp))
          have HD := Lib.hid (hb.trans (hE.mono hbs))
          have HOwn2 := Lib.hid (own_below hown hE)
          have hzz : wr.heap.size < w2.heap.size := by have := hb2.size; simp at this; omega
          clear hE hb2 hown hb
          cases hn : okB (wrap64 (x + -1)) (wrap64 y) with
          | false =>
            have HN := Lib.hid (impTo_no HStep.out hn)
            clear hn
            go_wp2
            go_roundw
            case rel => exact ⟨1 + 1, by omega, rfl, by rw [HN.out]; exact HOwn2.out, HD.out⟩
            case measure => (simp [intOf] <;> omega)
          | true =>
            have HN := Lib.hid (impTo_yes HStep.out hn)
            have HL := Lib.hid (impTo_length x y 1)
            clear hn
            go_wp2_with (first
              | (at_builtin; refine wpList_append_own _ rfl _ _ 34 rfl w.heap.size 38 i0 (.agg #[.int .i64 0, .int .i64 0]) 2 16 Try.underlying34 hi hz0 hz1 hz2 rfl (by decide) _ (impTo x y 1).length (rowC (impTo x y 1)) rfl (HOwn2.out.alloc _) ⟨w2.heap.size, 0, none⟩ 1 1 [.int .i64 (wrap64 (x + -1)), .int .i64 (wrap64 y)] rfl rfl (World.news_of_block (cs := #[.int .i64 (wrap64 (x + -1)), .int .i64 (wrap64 y)]) (t := 38) (fr := (0, 0)) (heap_alloc_new w2 _)) (by simp [Value.oneCell']) (by have := HL.out; unfold maxLen; omega) (by have := HL.out; omega) (by simp; omega) ?_; intro v2 w3 hown3 hgrow _))
            have hb3 : Below w.heap.size w w3 := (HD.out.alloc (by omega) _).grown hgrow (by simp; omega) (fun g hg => (HOwn2.out.lt g hg).1)
            have R := Lib.hid (show w3.ownsRow w.heap.size 38 2 v2 (impTo x y (1 + 1)).length (rowC (impTo x y (1 + 1))) by
              rw [HN.out, rowC_snoc, List.length_append]; exact hown3)
            clear hown3 hgrow
            go_wp2
            go_roundw
            case rel => exact ⟨1 + 1, by omega, rfl, R.out, hb3⟩
            case measure => (simp [intOf] <;> omega)
        · have hix := at2 x y
          rw [show ((2 : Nat) : Int) = 2 from rfl]
          go_wp2_with fail
          refine (isValid (wrap64 (x + 1)) (wrap64 y) _).mono ?_
          rintro e w2 ⟨rfl, hb2⟩
          clear hix
          have HStep := Lib.hid t2
          clear t0 t1 t2 t3
          obtain ⟨hc2, hc3⟩ := bx2 _ _ wr w2 hb2
          have hE : Below wr.heap.size wr w2 := (below_alloc1 wr _).trans (hb2.mono (by simp))
          have HD := Lib.hid (hb.trans (hE.mono hbs))
          have HOwn2 := Lib.hid (own_below hown hE)
          have hzz : wr.heap.size < w2.heap.size := by have := hb2.size; simp at this; omega
          clear hE hb2 hown hb
          cases hn : okB (wrap64 (x + 1)) (wrap64 y) with
          | false =>
            have HN := Lib.hid (impTo_no HStep.out hn)
            clear hn
            go_wp2
            go_roundw
            case rel => exact ⟨2 + 1, by omega, rfl, by rw [HN.out]; exact HOwn2.out, HD.out⟩
            case measure => (simp [intOf] <;> omega)
          | true =>
            have HN := Lib.hid (impTo_yes HStep.out hn)
            have HL := Lib.hid (impTo_length x y 2)
            clear hn
            go_wp2_with (first
              | (at_builtin; refine wpList_append_own _ rfl _ _ 34 rfl w.heap.size 38 i0 (.agg #[.int .i64 0, .int .i64 0]) 2 16 Try.underlying34 hi hz0 hz1 hz2 rfl (by decide) _ (impTo x y 2).length (rowC (impTo x y 2)) rfl (HOwn2.out.alloc _) ⟨w2.heap.size, 0, none⟩ 1 1 [.int .i64 (wrap64 (x + 1)), .int .i64 (wrap64 y)] rfl rfl (World.news_of_block (cs := #[.int .i64 (wrap64 (x + 1)), .int .i64 (wrap64 y)]) (t := 38) (fr := (0, 0)) (heap_alloc_new w2 _)) (by simp [Value.oneCell']) (by have := HL.out; unfold maxLen; omega) (by have := HL.out; omega) (by simp; omega) ?_; intro v2 w3 hown3 hgrow _))
            have hb3 : Below w.heap.size w w3 := (HD.out.alloc (by omega) _).grown hgrow (by simp; omega) (fun g hg => (HOwn2.out.lt g hg).1)
            have R := Lib.hid (show w3.ownsRow w.heap.size 38 2 v2 (impTo x y (2 + 1)).length (rowC (impTo x y (2 + 1))) by
              rw [HN.out, rowC_snoc, List.length_append]; exact hown3)
            clear hown3 hgrow
            go_wp2
            go_roundw
            case rel => exact ⟨2 + 1, by omega, rfl, R.out, hb3⟩
            case measure => (simp [intOf] <;> omega)
        · have hix := at3 x y
          rw [show ((3 : Nat) : Int) = 3 from rfl]
          go_wp2_with fail
          refine (isValid (wrap64 x) (wrap64 (y + 1)) _).mono ?_
          rintro e w2 ⟨rfl, hb2⟩
          clear hix
          have HStep := Lib.hid t3
          clear t0 t1 t2 t3
          obtain ⟨hc2, hc3⟩ := bx2 _ _ wr w2 hb2
          have hE : Below wr.heap.size wr w2 := (below_alloc1 wr _).trans (hb2.mono (by simp))
          have HD := Lib.hid (hb.trans (hE.mono hbs))
          have HOwn2 := Lib.hid (own_below hown hE)
          have hzz : wr.heap.size < w2.heap.size := by have := hb2.size; simp at this; omega
          clear hE hb2 hown hb
          cases hn : okB (wrap64 x) (wrap64 (y + 1)) with
          | false =>
            have HN := Lib.hid (impTo_no HStep.out hn)
            clear hn
            go_wp2
            go_roundw
            case rel => exact ⟨3 + 1, by omega, rfl, by rw [HN.out]; exact HOwn2.out, HD.out⟩
            case measure => (simp [intOf] <;> omega)
          | true =>
            have HN := Lib.hid (impTo_yes HStep.out hn)
            have HL := Lib.hid (impTo_length x y 3)
            clear hn
            go_wp2_with (first
              | (at_builtin; refine wpList_append_own _ rfl _ _ 34 rfl w.heap.size 38 i0 (.agg #[.int .i64 0, .int .i64 0]) 2 16 Try.underlying34 hi hz0 hz1 hz2 rfl (by decide) _ (impTo x y 3).length (rowC (impTo x y 3)) rfl (HOwn2.out.alloc _) ⟨w2.heap.size, 0, none⟩ 1 1 [.int .i64 (wrap64 x), .int .i64 (wrap64 (y + 1))] rfl rfl (World.news_of_block (cs := #[.int .i64 (wrap64 x), .int .i64 (wrap64 (y + 1))]) (t := 38) (fr := (0, 0)) (heap_alloc_new w2 _)) (by simp [Value.oneCell']) (by have := HL.out; unfold maxLen; omega) (by have := HL.out; omega) (by simp; omega) ?_; intro v2 w3 hown3 hgrow _))
            have hb3 : Below w.heap.size w w3 := (HD.out.alloc (by omega) _).grown hgrow (by simp; omega) (fun g hg => (HOwn2.out.lt g hg).1)
            have R := Lib.hid (show w3.ownsRow w.heap.size 38 2 v2 (impTo x y (3 + 1)).length (rowC (impTo x y (3 + 1))) by
              rw [HN.out, rowC_snoc, List.length_append]; exact hown3)
            clear hown3 hgrow
            go_wp2
            go_roundw
            case rel => exact ⟨3 + 1, by omega, rfl, R.out, hb3⟩
            case measure => (simp [intOf] <;> omega)
        · obtain ⟨A, cap, rfl⟩ := own_shape hown
          have HOwn := Lib.hid hown
          clear hown t0 t1 t2 t3
          rw [show ((4 : Nat) : Int) = 4 from rfl]
          go_wp2
          go_ret
          rw [HS.out]
          exact ⟨A, cap, rfl, HOwn.out, hb⟩
  · rw [okB_not hok]
    have HN := Lib.hid (none_nb hok 64)
    have hbw := T1.1
    clear T1
    go_wp2
    go_ret
    rw [HN.out]
    exact ⟨none, 0, rfl, ⟨rfl, .inl ⟨rfl, rfl⟩⟩, hbw⟩
end Go.Proofs.Ytjfagpmklifjlaa.Nb
