/- End in one text. -/
import Derived.Test.YtieophdbhnpncaaMp39
import Derived.Test.YtieophdbhnpncaaMp28
import Derived.Deep.DeepAppendRoom

/- sideEnds: the corners to which a side leads, those that are in the range. -/
namespace Go.Proofs.Ytieophdbhnpncaa.Cor
set_option linter.unusedVariables false
set_option linter.unusedSimpArgs false
set_option maxRecDepth 100000
open Go.RowKit Go.Proofs.Ytieophdbhnpncaa.Base Go.Proofs.Ytieophdbhnpncaa.Cell Go.Proofs.Ytieophdbhnpncaa.Dom Go.Proofs.Ytieophdbhnpncaa.Hgt Go.Joins
open Go.Proofs.Ytieophdbhnpncaa.Cels (rowC rowC_snoc rowC_length rowC_at)
open Go.Proofs.Ytieophdbhnpncaa.Reg (own_below own_base)

/-- an answer: corners in memory of the call's own. -/
def EndP (L : List (Int × Int)) (w : World) (e : Ending) (w' : World) : Prop :=
  ∃ (A : Option Addr) (cap : Nat), e = .returned (.slice A L.length cap) ∧ w'.ownsRow w.heap.size 48 2 (.slice A L.length cap) L.length (rowC L) ∧ Below w.heap.size w w'
theorem corInfo : (Try.prog.info? 48).map (fun i => (i.zero, i.size, i.bytes)) = some (some (.agg #[.int .i64 0, .int .i64 0]), 2, 16) := by kernel_rfl
/-- those of the first k that are in the range. -/
def endsT (x y : Int) (k : Nat) : List (Int × Int) := ((ends4 x y).take k).filter inC
theorem endsT_yes {x y u v : Int} {k : Nat} (h : (ends4 x y)[k]? = some (u, v)) (ho : inC (u, v) = true) : endsT x y (k + 1) = endsT x y k ++ [(u, v)] := by
  unfold endsT; rw [List.take_add_one, h, List.filter_append]; simp [ho]
theorem endsT_no {x y u v : Int} {k : Nat} (h : (ends4 x y)[k]? = some (u, v)) (ho : inC (u, v) = false) : endsT x y (k + 1) = endsT x y k := by
  unfold endsT; rw [List.take_add_one, h, List.filter_append]; simp [ho]
theorem endsT_le (x y : Int) (k : Nat) : (endsT x y k).length ≤ 4 := by
  unfold endsT
  exact Nat.le_trans (List.length_filter_le _ _) (by rw [List.length_take]; exact Nat.min_le_right _ _)
theorem endsT_all (x y : Int) : endsT x y 4 = endsP x y := rfl
def arr4 (x y : Int) : Array Value := #[.int .i64 x, .int .i64 (y - 1), .int .i64 (x - 1), .int .i64 y, .int .i64 (x + 1), .int .i64 y, .int .i64 x, .int .i64 (y + 1)]
theorem arr_cells {W : World} {g : Nat} {x y : Int} (h : W.heap[g]? = some (.cells (arr4 x y) 77 (0, 0))) :
    W.cell? ⟨g, 0, none⟩ = some (.int .i64 x) ∧ W.cell? ⟨g, 1, none⟩ = some (.int .i64 (y - 1)) ∧ W.cell? ⟨g, 2, none⟩ = some (.int .i64 (x - 1)) ∧ W.cell? ⟨g, 3, none⟩ = some (.int .i64 y) ∧
    W.cell? ⟨g, 4, none⟩ = some (.int .i64 (x + 1)) ∧ W.cell? ⟨g, 5, none⟩ = some (.int .i64 y) ∧ W.cell? ⟨g, 6, none⟩ = some (.int .i64 x) ∧ W.cell? ⟨g, 7, none⟩ = some (.int .i64 (y + 1)) :=
  ⟨(cell_of_row _ _ 0 _ _ _ h).trans rfl, (cell_of_row _ _ 1 _ _ _ h).trans rfl, (cell_of_row _ _ 2 _ _ _ h).trans rfl, (cell_of_row _ _ 3 _ _ _ h).trans rfl,
   (cell_of_row _ _ 4 _ _ _ h).trans rfl, (cell_of_row _ _ 5 _ _ _ h).trans rfl, (cell_of_row _ _ 6 _ _ _ h).trans rfl, (cell_of_row _ _ 7 _ _ _ h).trans rfl⟩
theorem arr_at (x y : Int) {k : Nat} {u v : Int} (h : (ends4 x y)[k]? = some (u, v)) (w : World) : (Instr.index 77 (.agg #[.int .i64 x, .int .i64 (y - 1), .int .i64 (x - 1), .int .i64 y, .int .i64 (x + 1), .int .i64 y, .int .i64 x, .int .i64 (y + 1)]) (.int .i64 (k : Int))).run Try.prog w = .ok (.agg #[.int .i64 u, .int .i64 v]) w := by
  have a0 : ∀ a b c d e f g h : Int, (Instr.index 77 (.agg #[.int .i64 a, .int .i64 b, .int .i64 c, .int .i64 d, .int .i64 e, .int .i64 f, .int .i64 g, .int .i64 h]) (.int .i64 ((0 : Nat) : Int))).run Try.prog w = .ok (.agg #[.int .i64 a, .int .i64 b]) w := fun a b c d e f g h => by kernel_rfl
  have a1 : ∀ a b c d e f g h : Int, (Instr.index 77 (.agg #[.int .i64 a, .int .i64 b, .int .i64 c, .int .i64 d, .int .i64 e, .int .i64 f, .int .i64 g, .int .i64 h]) (.int .i64 ((1 : Nat) : Int))).run Try.prog w = .ok (.agg #[.int .i64 c, .int .i64 d]) w := fun a b c d e f g h => by kernel_rfl
  have a2 : ∀ a b c d e f g h : Int, (Instr.index 77 (.agg #[.int .i64 a, .int .i64 b, .int .i64 c, .int .i64 d, .int .i64 e, .int .i64 f, .int .i64 g, .int .i64 h]) (.int .i64 ((2 : Nat) : Int))).run Try.prog w = .ok (.agg #[.int .i64 e, .int .i64 f]) w := fun a b c d e f g h => by kernel_rfl
  have a3 : ∀ a b c d e f g h : Int, (Instr.index 77 (.agg #[.int .i64 a, .int .i64 b, .int .i64 c, .int .i64 d, .int .i64 e, .int .i64 f, .int .i64 g, .int .i64 h]) (.int .i64 ((3 : Nat) : Int))).run Try.prog w = .ok (.agg #[.int .i64 g, .int .i64 h]) w := fun a b c d e f g h => by kernel_rfl
  unfold ends4 at h
  rcases k with _ | _ | _ | _ | k
  · simp at h; obtain ⟨rfl, rfl⟩ := h; exact a0 _ _ _ _ _ _ _ _
  · simp at h; obtain ⟨rfl, rfl⟩ := h; exact a1 _ _ _ _ _ _ _ _
  · simp at h; obtain ⟨rfl, rfl⟩ := h; exact a2 _ _ _ _ _ _ _ _
  · simp at h; obtain ⟨rfl, rfl⟩ := h; exact a3 _ _ _ _ _ _ _ _
  · simp at h
theorem ends_at (x y : Int) {k : Nat} (h : k < 4) : ∃ u v, (ends4 x y)[k]? = some (u, v) := by
  have : k < (ends4 x y).length := h
  exact ⟨_, _, List.getElem?_eq_getElem this⟩
theorem arr_start (w : World) (x y : Int) (W : World) (e : W = (w.alloc (.cells #[.int .i64 x, .int .i64 y] 48)).alloc (.cells (arr4 x y) 77)) :
    Below w.heap.size w W ∧ W.heap[w.heap.size + 1]? = some (.cells (arr4 x y) 77 (0, 0)) := by
  subst e
  refine ⟨below_alloc2 w _ _, ?_⟩
  have k := heap_alloc_new (w.alloc (.cells #[.int .i64 x, .int .i64 y] 48)) (.cells (arr4 x y) 77)
  simpa using k
set_option maxHeartbeats 4000000 in
theorem iEnds (x y : Int) (h : 0 ≤ x ∧ x ≤ 8 ∧ 0 ≤ y ∧ y ≤ 8) (w : World) : Calls Try.prog 28 #[.agg #[.int .i64 x, .int .i64 y]] w (EndP (endsP x y) w) := by
  obtain ⟨i0, hi, hz0, hz1, hz2⟩ := info_parts corInfo
  have e1 : wrap64 (y - 1) = y - 1 := by unfold wrap64; omega
  have e2 : wrap64 (x - 1) = x - 1 := by unfold wrap64; omega
  have e3 : wrap64 (x + 1) = x + 1 := by unfold wrap64; omega
  have e4 : wrap64 (y + 1) = y + 1 := by unfold wrap64; omega
  clear h
  have HS := Lib.hid (arr_start w x y _ rfl)
  unfold arr4 at HS
  go_enter Try.func28, Try.ntmps28
  go_upto_region 2 with fail
  obtain ⟨hb1, hA⟩ := HS.out
  clear HS
  generalize (w.alloc _).alloc _ = W1 at hb1 hA ⊢
  have HA := Lib.hid (show W1.heap[w.heap.size + 1]? = some (.cells (arr4 x y) 77 (0, 0)) from hA)
  have hgs := (Array.getElem?_eq_some_iff.1 hA).1
  have hW1 : w.heap.size ≤ W1.heap.size := hb1.size
  clear hA e1 e2 e3 e4
  go_wp2_with (first
    | (at_make; refine wpList_make_own _ rfl _ _ 51 rfl w.heap.size 48 i0 (.agg #[.int .i64 0, .int .i64 0]) 2 Try.underlying51 hi hz0 hz1 .i64 .i64 4 4 rfl rfl (by omega) (by rw [hz2]; omega) (by unfold maxLen; omega) (by omega) ?_; intro w3 hown3 hg3; obtain ⟨q0, q1, q2, q3, q4, q5, q6, q7⟩ := arr_cells ((hg3.block (w.heap.size + 1) hgs (by simp)).trans HA.out)))
  have hb3 : Below w.heap.size w w3 := hb1.grown hg3 (by omega) (by simp)
  have HO := Lib.hid hown3
  clear q0 q1 q2 q3 q4 q5 q6 q7 hown3 hg3 HA hb1 hW1 hgs
  go_loopw [4, 34] (fun v i wr => ∃ k : Nat, k ≤ 4 ∧ i = .int .i64 k ∧ wr.ownsRow w.heap.size 48 2 v (endsT x y k).length (rowC (endsT x y k)) ∧ Below w.heap.size w wr) (fun _ i _ => 4 - (intOf i).toNat)
  case atStart => exact ⟨0, Nat.zero_le _, rfl, HO.out, hb3⟩
  case round =>
    clear HO hb3
    obtain ⟨k, hk, rfl, hown, hb⟩ := hrel
    have hbs := hb.size
    by_cases hlt : k < 4
    · obtain ⟨u, v', hq⟩ := ends_at x y hlt
      have hix := arr_at x y hq
      have HQ := Lib.hid hq
      have hkI : (k : Int) < 4 := by omega
      clear hq
      go_wp2_with fail
      refine (iInRange u v' _).mono ?_
      rintro e w2 ⟨rfl, hb2⟩
      clear hix
      have hbx := below_alloc1 wr (.cells #[.int .i64 u, .int .i64 v'] 48)
      have hE : Below wr.heap.size wr w2 := hbx.trans (hb2.mono (by simp))
      have hN := (AtC.new wr u v').on hb2
      have c0 := hN.c0
      have c1 := hN.c1
      have HD := Lib.hid (hb.trans (hE.mono hbs))
      have HOwn2 := Lib.hid (own_below hown hE (Nat.le_refl _))
      have hzz : wr.heap.size < w2.heap.size := hN.lt
      clear hE hb2 hown hb hbx hN
      cases hn : inC (u, v') with
      | false =>
        have HN := Lib.hid (endsT_no HQ.out hn)
        clear hn
        go_wp2
        go_roundw
        case rel => exact ⟨k + 1, by omega, by go_num, by rw [HN.out]; exact HOwn2.out, HD.out⟩
        case measure => (simp [intOf] <;> omega)
      | true =>
        have HN := Lib.hid (endsT_yes HQ.out hn)
        have HL := Lib.hid (endsT_le x y k)
        clear hn
        go_wp2_with (first
          | (at_builtin; refine wpList_append_own _ rfl _ _ 51 rfl w.heap.size 48 i0 (.agg #[.int .i64 0, .int .i64 0]) 2 16 Try.underlying51 hi hz0 hz1 hz2 rfl (by decide) _ (endsT x y k).length (rowC (endsT x y k)) rfl (HOwn2.out.alloc _) ⟨w2.heap.size, 0, none⟩ 1 1 [.int .i64 u, .int .i64 v'] rfl rfl (World.news_of_block (cs := #[.int .i64 u, .int .i64 v']) (t := 48) (fr := (0, 0)) (heap_alloc_new w2 _)) (by simp [Value.oneCell']) (by have := HL.out; unfold maxLen; omega) (by have := HL.out; omega) (by simp; omega) ?_; intro v2 w3 hown3 hgrow _))
        have hb3 : Below w.heap.size w w3 := (HD.out.alloc (by omega) _).grown hgrow (by simp; omega) (fun g hg => (HOwn2.out.lt g hg).1)
        have R := Lib.hid (show w3.ownsRow w.heap.size 48 2 v2 (endsT x y (k + 1)).length (rowC (endsT x y (k + 1))) by
          rw [HN.out, rowC_snoc, List.length_append]; exact hown3)
        clear hown3 hgrow
        go_wp2
        go_roundw
        case rel => exact ⟨k + 1, by omega, by go_num, R.out, hb3⟩
        case measure => (simp [intOf] <;> omega)
    · obtain rfl : k = 4 := by omega
      obtain ⟨A, cap, rfl⟩ := own_shape hown
      have HOwn := Lib.hid hown
      clear hown
      rw [show ((4 : Nat) : Int) = 4 from rfl]
      go_wp2
      go_ret
      exact ⟨A, cap, rfl, HOwn.out, hb⟩
end Go.Proofs.Ytieophdbhnpncaa.Cor
