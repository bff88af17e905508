/- Rectangle: the program's function and the model's give the same region, in new memory. -/
import Derived.Test.YtcncikgcieigaaaRegM
import Derived.Test.YtcncikgcieigaaaCellB
import Derived.Deep.RegionHeld3
import Derived.Deep.DeepAppendRoom
import Derived.Deep.RegionLaw
import Derived.BigRegion
namespace Go.Proofs.Ytcncikgcieigaaa.Reg
set_option linter.unusedVariables false
open Go.RowKit Go.Proofs.Ytcncikgcieigaaa.Base Go.Proofs.Ytcncikgcieigaaa.Pure Go.Proofs.Ytcncikgcieigaaa.Cell Go.Joins

theorem filled_step (v : Int) (n k : Nat) (hk : k < n) : (ints (List.replicate k v) ++ List.replicate (n - k) (Value.int .i64 0)).set k (.int .i64 v) = ints (List.replicate (k + 1) v) ++ List.replicate (n - (k + 1)) (Value.int .i64 0) := by
  have hl : (ints (List.replicate k v)).length = k := by rw [ints_length, List.length_replicate]
  rw [List.set_append_right _ _ (by omega), hl, Nat.sub_self, show n - k = (n - (k + 1)) + 1 by omega, List.replicate_succ, List.set_cons_zero, List.replicate_succ' (n := k), ints_snoc, List.append_assoc]
  rfl
theorem row_value {k : Nat} (h1 : 1 ≤ k) (h8 : k ≤ 8) : wrap64 (wrap64 ((2 : Int) ^ k) - 1) = 2 ^ k - 1 := by
  have hcs : k = 1 ∨ k = 2 ∨ k = 3 ∨ k = 4 ∨ k = 5 ∨ k = 6 ∨ k = 7 ∨ k = 8 := by omega
  rcases hcs with rfl | rfl | rfl | rfl | rfl | rfl | rfl | rfl <;> (unfold wrap64; decide)

theorem row_value' {k : Nat} (h1 : 1 ≤ k) (h8 : k ≤ 8) : IntKind.i64.wrap (IntKind.i64.wrap ((2 : Int) ^ k) - 1) = 2 ^ k - 1 := by
  have hcs : k = 1 ∨ k = 2 ∨ k = 3 ∨ k = 4 ∨ k = 5 ∨ k = 6 ∨ k = 7 ∨ k = 8 := by omega
  rcases hcs with rfl | rfl | rfl | rfl | rfl | rfl | rfl | rfl <;> (rw [IntKind.wrap_i64, IntKind.wrap_i64]; decide)

set_option maxRecDepth 100000 in
set_option maxHeartbeats 1000000 in
theorem iRectIn (w : World) (k n : Nat) (h1 : 1 ≤ k) (h8 : k ≤ 8) (n1 : 1 ≤ n) (n8 : n ≤ 8) :
    Calls Try.prog 35 #[.int .i64 (k : Int), .int .i64 (n : Int)] w (RegPost (List.replicate n (2 ^ k - 1)) n w) := by
  obtain ⟨i0, hi, hz0, hz1, hz2⟩ := info_parts intInfo
  have hv := row_value h1 h8
  obtain ⟨v, hvv⟩ : ∃ v, v = (2 : Int) ^ k - 1 := ⟨_, rfl⟩
  rw [← hvv] at hv ⊢
  clear hvv
  have HB := Lib.hid (fun (o1 : Obj) => below_alloc1 w o1)
  go_enter Try.func35, Try.ntmps35
  go_wp2_with (first | (at_make; refine wpList_make_full _ rfl _ _ 24 rfl (w.heap.size + 1) 3 i0 (.int .i64 0) 1 Try.underlying24 hi hz0 hz1 .i64 .i64 (n : Int) (n : Int) n rfl rfl rfl rfl (by rw [hz2]; omega) (by unfold maxLen; omega) (by simp) ?_; intro w1 hown1 hg1))
  have hsz : (w.alloc (.cells #[.slice none 0 0] 26)).heap.size = w.heap.size + 1 := by simp
  rw [hsz] at hown1
  have hb1 : Below w.heap.size w w1 := (HB.out _).grown hg1 (by simp) (by simp)
  have hbl : w1.heap[w.heap.size]? = some (.cells #[.slice none 0 0] 26) := (hg1.block w.heap.size (by simp) (by simp)).trans (heap_alloc_new w _)
  have HBl := Lib.hid hbl
  have HO := Lib.hid (show w1.ownsRow (w.heap.size + 1) 3 1 (.slice (some ⟨w.heap.size + 1, 0, none⟩) n n) n (ints (List.replicate 0 v) ++ List.replicate (n - 0) (.int .i64 0)) by
    rw [show (Value.int .i64 0).cells = #[.int .i64 0] from rfl, Nat.mul_one, toList_madeCells_one] at hown1
    simpa [ints] using hown1)
  clear hown1 hg1 hi hz0 hz1 hz2 hsz hbl HB
  go_loopw [26] (fun i wr => ∃ j : Nat, j ≤ n ∧ i = .int .i64 j ∧ wr.ownsRow (w.heap.size + 1) 3 1 (.slice (some ⟨w.heap.size + 1, 0, none⟩) n n) n (ints (List.replicate j v) ++ List.replicate (n - j) (.int .i64 0)) ∧ Below w.heap.size w wr ∧ Hid (wr.heap[w.heap.size]? = some (.cells #[.slice none 0 0] 26))) (fun i _ => n - (intOf i).toNat)
  case atStart => exact ⟨0, Nat.zero_le _, rfl, HO.out, hb1, HBl⟩
  case round =>
    clear HO hb1 HBl
    obtain ⟨j, hj, rfl, hown, hb, HBl⟩ := hrel
    have hbs := hb.size
    by_cases hlt : j < n
    · have hu : ∃ u, wr.cell? ⟨w.heap.size + 1, j, none⟩ = some u := by
        have hlen := hown.1
        rw [hown.cellAt j (by omega)]; exact ⟨_, List.getElem?_eq_getElem (by omega)⟩
      obtain ⟨u, hu⟩ := hu
      have hf := hown.frozenAt j
      obtain ⟨hst, _⟩ := hown.stored j (.int .i64 v)
      rw [filled_step v n j hlt] at hst
      have R := Lib.hid hst
      have HB := Lib.hid (hb.setCell (p := ⟨w.heap.size + 1, j, none⟩) (by show w.heap.size ≤ w.heap.size + 1; omega) (.int .i64 v))
      have HL := Lib.hid (show (wr.setCell ⟨w.heap.size + 1, j, none⟩ (.int .i64 v)).heap[w.heap.size]? = some (.cells #[.slice none 0 0] 26) from (Below.heap_setCell wr _ _ _ (by show w.heap.size ≠ w.heap.size + 1; omega)).trans HBl.out)
      clear hown hst hb
      go_wp2
      go_roundw
      case rel => exact ⟨j + 1, by omega, by go_num, R.out, HB.out, HL⟩
      case measure => (simp [intOf] <;> omega)
    · obtain rfl : j = n := by omega
      have R := Lib.hid (show wr.ownsRow (w.heap.size + 1) 3 1 (.slice (some ⟨w.heap.size + 1, 0, none⟩) j j) j (ints (List.replicate j v)) by
        rw [Nat.sub_self] at hown; simpa using hown)
      obtain ⟨c2, f2⟩ := cellAt HBl.out 0
      clear hown
      go_wp2
      have hres := World.cell?_setCell_same (w := wr) ⟨w.heap.size, 0, none⟩ (.slice (some ⟨w.heap.size + 1, 0, none⟩) j j) (u := .slice none 0 0) c2
      refine bodyPost_ret (v := .agg #[.slice (some ⟨w.heap.size + 1, 0, none⟩) j j]) (by simp [results, Try.results35, go_sem, hres]) rfl ⟨_, j, rfl, ?_, hb.setCell (Nat.le_refl _) _⟩
      exact own_base (ownsRow_setCell_below R.out (by show w.heap.size < w.heap.size + 1; omega) _) (by omega)

set_option maxRecDepth 100000 in
set_option maxHeartbeats 1000000 in
theorem iRectOut (w : World) (a b : Int) (h : ¬ (1 ≤ a ∧ a ≤ 8 ∧ 1 ≤ b ∧ b ≤ 8)) :
    Calls Try.prog 35 #[.int .i64 a, .int .i64 b] w (RegPost [] 0 w) := by
  have hB := below_alloc1 w (.cells #[.slice none 0 0] 26)
  obtain ⟨c0, f0⟩ := cellAt (heap_alloc_new w (.cells #[.slice none 0 0] 26)) 0
  have hres := World.cell?_setCell_same (w := w.alloc (.cells #[.slice none 0 0] 26)) ⟨w.heap.size, 0, none⟩ (.slice none 0 0) (u := .slice none 0 0) c0
  have HR := Lib.hid (fun (W : World) (hW : Below w.heap.size w W) => (show RegPost [] 0 w (.returned (.agg #[.slice none 0 0])) W from ⟨none, 0, rfl, World.ownsRow_nil _ _ _ _, hW⟩))
  have HB := Lib.hid hB
  clear hB
  go_enter Try.func35, Try.ntmps35
  by_cases h1 : 1 ≤ a
  · by_cases h2 : a ≤ 8
    · by_cases h3 : 1 ≤ b
      · have h4 : ¬ b ≤ 8 := fun k => h ⟨h1, h2, h3, k⟩
        clear h
        go_wp2
        refine bodyPost_ret (v := .agg #[.slice none 0 0]) (by simp [results, Try.results35, go_sem]) rfl (HR.out _ ?_)
        first | exact HB.out | exact HB.out.setCell (Nat.le_refl _) _
      · clear h
        go_wp2
        refine bodyPost_ret (v := .agg #[.slice none 0 0]) (by simp [results, Try.results35, go_sem]) rfl (HR.out _ ?_)
        first | exact HB.out | exact HB.out.setCell (Nat.le_refl _) _
    · clear h
      go_wp2
      refine bodyPost_ret (v := .agg #[.slice none 0 0]) (by simp [results, Try.results35, go_sem]) rfl (HR.out _ ?_)
      first | exact HB.out | exact HB.out.setCell (Nat.le_refl _) _
  · clear h
    go_wp2
    refine bodyPost_ret (v := .agg #[.slice none 0 0]) (by simp [results, Try.results35, go_sem]) rfl (HR.out _ ?_)
    first | exact HB.out | exact HB.out.setCell (Nat.le_refl _) _

theorem two_boxes (w : World) (o1 o2 : Obj) : ((w.alloc o1).alloc o2).heap[w.heap.size]? = some o1 ∧ ((w.alloc o1).alloc o2).heap[w.heap.size + 1]? = some o2 := by
  have h1 : (w.heap.push o1).size = w.heap.size + 1 := by simp
  constructor
  · show ((w.heap.push o1).push o2)[_]? = _
    rw [Array.getElem?_push_lt (by simp)]
    simp
  · show ((w.heap.push o1).push o2)[_]? = _
    rw [← h1]; exact Array.getElem?_push_size

/-- the result's box and the region's, in the model's Rectangle. -/
def SR (w : World) (v : Value) (W : World) : Prop :=
  Below w.heap.size w W ∧ w.heap.size + 2 ≤ W.heap.size ∧ W.heap[w.heap.size]? = some (.cells #[.slice none 0 0] 26) ∧ W.heap[w.heap.size + 1]? = some (.cells #[v] 26)
theorem SR.grown {w W W' : World} {v : Value} {row : Option Nat} (h : SR w v W) (hg : W.grownBy W' row) (hr : ∀ k, row = some k → w.heap.size + 2 ≤ k) : SR w v W' := by
  obtain ⟨a, b, c, d⟩ := h
  have hz := hg.size
  refine ⟨a.grown hg (by omega) (fun k hk => by have := hr k hk; omega), by omega, ?_, ?_⟩
  · rw [hg.block _ (by omega) (fun e => by have := hr _ e.symm; omega)]; exact c
  · rw [hg.block _ (by omega) (fun e => by have := hr _ e.symm; omega)]; exact d
theorem SR.alloc {w W : World} {v : Value} (h : SR w v W) (o : Obj) : SR w v (W.alloc o) := h.grown (World.grownBy_alloc W o none) (by simp)
theorem SR.drew {w W : World} {v : Value} (h : SR w v W) : SR w v W.drew := ⟨h.1.drew, h.2⟩
theorem SR.store {w W : World} {v : Value} (h : SR w v W) (u : Value) : SR w u (W.setCell ⟨w.heap.size + 1, 0, none⟩ u) := by
  obtain ⟨a, b, c, d⟩ := h
  refine ⟨a.setCell (by show w.heap.size ≤ w.heap.size + 1; omega) _, by simpa [World.setCell] using b, ?_, ?_⟩
  · exact (Below.heap_setCell W _ _ _ (by show w.heap.size ≠ w.heap.size + 1; omega)).trans c
  · have := block_setCell d u (i := 0)
    rw [this]; rfl

set_option maxRecDepth 100000 in
set_option maxHeartbeats 2000000 in
theorem sRectIn (w : World) (k n : Nat) (h1 : 1 ≤ k) (h8 : k ≤ 8) (n1 : 1 ≤ n) (n8 : n ≤ 8) :
    Calls Try.prog 49 #[.int .i64 (k : Int), .int .i64 (n : Int)] w (RegPost (List.replicate n (2 ^ k - 1)) n w) := by
  obtain ⟨i0, hi, hz0, hz1, hz2⟩ := info_parts intInfo
  have hv := row_value h1 h8
  have HX := Lib.hid (row_value' h1 h8)
  obtain ⟨v, hvv⟩ : ∃ v, v = (2 : Int) ^ k - 1 := ⟨_, rfl⟩
  rw [← hvv] at hv HX ⊢
  clear hvv
  have HS := Lib.hid (show SR w (.slice none 0 0) ((w.alloc (.cells #[.slice none 0 0] 26)).alloc (.cells #[.slice none 0 0] 26)) from ⟨below_alloc2 w _ _, by simp, (two_boxes w _ _).1, (two_boxes w _ _).2⟩)
  have HI := Lib.hid (fun W => l01In (k : Int) 1 8 W)
  have HJ := Lib.hid (fun W => l01In (n : Int) 1 8 W)
  rw [inB_of (by omega)] at HI HJ
  go_enter Try.func49, Try.ntmps49
  go_wp2_with fail
  go_loopw [6] (fun i wr => ∃ (j : Nat) (u : Value), j ≤ n ∧ i = .int .i64 j ∧ wr.ownsRow (w.heap.size + 2) 3 1 u j (ints (List.replicate j v)) ∧ SR w u wr) (fun i _ => n - (intOf i).toNat)
  case atStart => exact ⟨0, .slice none 0 0, Nat.zero_le _, rfl, World.ownsRow_nil _ _ _ _, HS.out⟩
  case round =>
    clear HS
    obtain ⟨j, u, hj, rfl, hown, hs⟩ := hrel
    have hsz := hs.2.1
    by_cases hlt : j < n
    · obtain ⟨c1, f1⟩ := cellAt hs.2.2.2 0
      have HSR := Lib.hid hs
      have HOwn := Lib.hid hown
      clear hown hs
      go_wp2_with fail
      refine (HI.out _).mono ?_
      rintro e w1 ⟨rfl, rfl⟩
      go_wp2_with fail
      refine (HJ.out _).mono ?_
      rintro e w2 ⟨rfl, rfl⟩
      have ca : ∀ o, (w2.alloc o).cell? ⟨w.heap.size + 1, 0, none⟩ = some u := fun o => (cellAt (HSR.out.alloc o).2.2.2 0).1.trans rfl
      have fa : ∀ o, (w2.alloc o).frozen? ⟨w.heap.size + 1, 0, none⟩ = false := fun o => (cellAt (HSR.out.alloc o).2.2.2 0).2
      go_wp2_with fail
      go_region_law (first | (refine step_append_lies _ (by rfl) _ _ _ (by rfl) (w.heap.size + 2) 3 i0 _ 1 8 Try.underlying24 hi hz0 hz1 hz2 rfl (by omega) u j (ints (List.replicate j v)) (by rfl) ((HOwn.out.alloc _).drew) ⟨w2.heap.size, 0, none⟩ 1 1 [.int .i64 (IntKind.i64.wrap (IntKind.i64.wrap (2 ^ k) - 1))] (by rfl) (by rfl) (World.news_of_block (cs := #[.int .i64 (IntKind.i64.wrap (IntKind.i64.wrap (2 ^ k) - 1))]) (t := 3) (fr := (0, 0)) (heap_alloc_new w2 _)) (by simp [Value.oneCell']) (by omega) (by unfold maxLen; omega) (by omega) (by simp; omega) (w2.heap.size + 1) (by simp) ?_; intro gg cap w3 hown3 hgrow hat hlt3; obtain ⟨d1, g1⟩ := cellAt (((HSR.out.alloc (.cells #[.int .i64 (IntKind.i64.wrap (IntKind.i64.wrap (2 ^ k) - 1))] 3)).drew.grown hgrow (fun q hq => (HOwn.out.lt q hq).1)).2.2.2) 0))
      all_goals
        have hX := HX.out
        rw [hX] at hown3 hgrow
        have hs4 := Lib.hid (((SR.drew (HSR.out.alloc _)).grown hgrow (fun q hq => (HOwn.out.lt q hq).1)).store (.slice (some ⟨gg, 0, none⟩) (j + 1) cap))
        have R := Lib.hid (show (w3.setCell ⟨w.heap.size + 1, 0, none⟩ (.slice (some ⟨gg, 0, none⟩) (j + 1) cap)).ownsRow (w.heap.size + 2) 3 1 (.slice (some ⟨gg, 0, none⟩) (j + 1) cap) (j + 1) (ints (List.replicate (j + 1) v)) by
          rw [List.replicate_succ' (n := j), ints_snoc]
          exact ownsRow_setCell_below hown3 (by show w.heap.size + 1 < w.heap.size + 2; omega) _)
        clear hown3 hgrow hat d1 g1 hX HOwn HSR ca fa c1 f1 hlt3
        go_wp2
        go_roundw
        case rel => exact ⟨j + 1, _, by omega, by go_num, R.out, hs4.out⟩
        case measure => (simp [intOf] <;> omega)
    · obtain rfl : j = n := by omega
      obtain ⟨A, cap, rfl⟩ := own_shape hown
      obtain ⟨c1, f1⟩ := cellAt hs.2.2.2 0
      obtain ⟨c2, f2⟩ := cellAt hs.2.2.1 0
      have HSR := Lib.hid hs
      have HOwn := Lib.hid hown
      clear hown hs
      go_wp2
      have hres := World.cell?_setCell_same (w := wr) ⟨w.heap.size, 0, none⟩ (.slice A j cap) (u := .slice none 0 0) c2
      refine bodyPost_ret (v := .agg #[.slice A j cap]) (by simp [results, Try.results49, go_sem, hres]) rfl ⟨A, cap, rfl, ?_, HSR.out.1.setCell (Nat.le_refl _) _⟩
      exact own_base (ownsRow_setCell_below HOwn.out (by show w.heap.size < w.heap.size + 2; omega) _) (by omega)

set_option maxRecDepth 100000 in
set_option maxHeartbeats 2000000 in
theorem sRectOut (w : World) (a b : Int) (h : ¬ (1 ≤ a ∧ a ≤ 8 ∧ 1 ≤ b ∧ b ≤ 8)) :
    Calls Try.prog 49 #[.int .i64 a, .int .i64 b] w (RegPost [] 0 w) := by
  have HS := Lib.hid (show SR w (.slice none 0 0) ((w.alloc (.cells #[.slice none 0 0] 26)).alloc (.cells #[.slice none 0 0] 26)) from ⟨below_alloc2 w _ _, by simp, (two_boxes w _ _).1, (two_boxes w _ _).2⟩)
  have HI := Lib.hid (fun W => l01In a 1 8 W)
  have HJ := Lib.hid (fun W => l01In b 1 8 W)
  have HR := Lib.hid (fun (W : World) (hW : Below w.heap.size w W) => (show RegPost [] 0 w (.returned (.agg #[.slice none 0 0])) W from ⟨none, 0, rfl, World.ownsRow_nil _ _ _ _, hW⟩))
  have hab : inB a 1 8 = false ∨ inB a 1 8 = true ∧ inB b 1 8 = false := by
    by_cases k : 1 ≤ a ∧ a ≤ 8
    · exact .inr ⟨inB_of k, inB_not fun q => h ⟨k.1, k.2, q.1, q.2⟩⟩
    · exact .inl (inB_not k)
  generalize inB a 1 8 = x at HI hab
  generalize inB b 1 8 = y at HJ hab
  clear h
  go_enter Try.func49, Try.ntmps49
  go_wp2_with fail
  go_loopw [6] (fun i wr => i = .int .i64 0 ∧ SR w (.slice none 0 0) wr) (fun i _ => (intOf i).toNat)
  case atStart => exact ⟨rfl, HS.out⟩
  case round =>
    clear HS
    obtain ⟨rfl, hs⟩ := hrel
    obtain ⟨c1, f1⟩ := cellAt hs.2.2.2 0
    obtain ⟨c2, f2⟩ := cellAt hs.2.2.1 0
    have HSR := Lib.hid hs
    have hres := World.cell?_setCell_same (w := wr) ⟨w.heap.size, 0, none⟩ (.slice none 0 0) (u := .slice none 0 0) c2
    clear hs
    by_cases hb : 0 < b
    · go_wp2_with fail
      refine (HI.out _).mono ?_
      rintro e w1 ⟨rfl, rfl⟩
      rcases hab with rfl | ⟨rfl, rfl⟩
      · go_wp2
        refine bodyPost_ret (v := .agg #[.slice none 0 0]) (by simp [results, Try.results49, go_sem, hres]) rfl (HR.out _ (HSR.out.1.setCell (Nat.le_refl _) _))
      · go_wp2_with fail
        refine (HJ.out _).mono ?_
        rintro e w2 ⟨rfl, rfl⟩
        go_wp2
        refine bodyPost_ret (v := .agg #[.slice none 0 0]) (by simp [results, Try.results49, go_sem, hres]) rfl (HR.out _ (HSR.out.1.setCell (Nat.le_refl _) _))
    · go_wp2
      refine bodyPost_ret (v := .agg #[.slice none 0 0]) (by simp [results, Try.results49, go_sem, hres]) rfl (HR.out _ (HSR.out.1.setCell (Nat.le_refl _) _))

theorem rect_nat {a b : Int} (h : 1 ≤ a ∧ a ≤ 8 ∧ 1 ≤ b ∧ b ≤ 8) : ∃ k n : Nat, a = (k : Int) ∧ b = (n : Int) ∧ 1 ≤ k ∧ k ≤ 8 ∧ 1 ≤ n ∧ n ≤ 8 ∧ rectR a b = List.replicate n (2 ^ k - 1) := by
  refine ⟨a.toNat, b.toNat, by omega, by omega, by omega, by omega, by omega, by omega, ?_⟩
  rw [rectR_in h]
theorem iRectangle (w : World) (a b : Int) :
    Calls Try.prog 35 #[.int .i64 a, .int .i64 b] w (RegPost (rectR a b) (rectR a b).length w) := by
  by_cases h : 1 ≤ a ∧ a ≤ 8 ∧ 1 ≤ b ∧ b ≤ 8
  · obtain ⟨k, n, rfl, rfl, h1, h2, h3, h4, he⟩ := rect_nat h
    rw [he, List.length_replicate]
    exact iRectIn w k n h1 h2 h3 h4
  · rw [rectR_out h]
    exact iRectOut w a b h
theorem sRectangle (w : World) (a b : Int) :
    Calls Try.prog 49 #[.int .i64 a, .int .i64 b] w (RegPost (rectR a b) (rectR a b).length w) := by
  by_cases h : 1 ≤ a ∧ a ≤ 8 ∧ 1 ≤ b ∧ b ≤ 8
  · obtain ⟨k, n, rfl, rfl, h1, h2, h3, h4, he⟩ := rect_nat h
    rw [he, List.length_replicate]
    exact sRectIn w k n h1 h2 h3 h4
  · rw [rectR_out h]
    exact sRectOut w a b h
end Go.Proofs.Ytcncikgcieigaaa.Reg
