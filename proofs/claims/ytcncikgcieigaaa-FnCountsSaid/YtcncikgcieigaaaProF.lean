/- The functions on a profile: is a column covered, the profile without a column, and with one more domino. -/
import Derived.Test.YtcncikgcieigaaaMapK
import Derived.Test.YtcncikgcieigaaaCntM
import Derived.Test.YtcncikgcieigaaaRegHas
import Derived.Deep.RegionHeld3
import Derived.BigQuiet
import Derived.StillTailTactics
namespace Go.Proofs.Ytcncikgcieigaaa.Prof
set_option linter.unusedVariables false
set_option linter.unusedSimpArgs false
open Go.RowKit Go.Proofs.Ytcncikgcieigaaa.Base Go.Proofs.Ytcncikgcieigaaa.Pure Go.Proofs.Ytcncikgcieigaaa.Cell Go.Proofs.Ytcncikgcieigaaa.Reg Go.Proofs.Ytcncikgcieigaaa.Cnt Go.Joins

theorem wrap_is (x : Int) : IntKind.i64.wrap x = wrap64 x := by rw [IntKind.wrap_i64]; unfold wrap64; first | rfl | omega
/-- an ending with one profile. -/
def Pro (s d : Int) (w : World) (e : Ending) (w' : World) : Prop := e = .returned (.agg #[.int .i64 s, .int .i64 d]) ∧ Below w.heap.size w w'
theorem mkPro {s d s' d' : Int} {w w' : World} {e : Ending} (hs : s' = s) (hd : d' = d) (he : e = .returned (.agg #[.int .i64 s', .int .i64 d'])) (hb : Below w.heap.size w w') : Pro s d w e w' := ⟨by rw [he, hs, hd], hb⟩
theorem andNot_table : ∀ s : Fin 256, ∀ x : Fin 8, s.val.testBit x.val = true → bits .andNot .i64 ((s.val : Nat) : Int) ((2 ^ x.val : Nat) : Int) = ((s.val - 2 ^ x.val : Nat) : Int) := by decide +kernel
theorem state_andNot {s x : Nat} (hs : s < 256) (hx : x < 8) (h : s.testBit x = true) : bits .andNot .i64 (s : Int) (2 ^ x) = ((s - 2 ^ x : Nat) : Int) := by
  have := andNot_table ⟨s, hs⟩ ⟨x, hx⟩ h
  simpa using this

set_option maxRecDepth 100000 in
set_option maxHeartbeats 2000000 in
theorem iCovers (s d x : Nat) (hs : s < 256) (hx : x < 8) (w : World) :
    Calls Try.prog 64 #[.agg #[.int .i64 (s : Int), .int .i64 (d : Int)], .int .i64 (x : Int)] w (Bol (s.testBit x) w) := by
  have HB := Lib.hid (below_alloc1 w (.cells #[.int .i64 (s : Int), .int .i64 (d : Int)] 56))
  have hbit := state_bit hs hx
  have h0 : (0 : Int) ≤ (s : Int) := by omega
  have h1 : (s : Int) ≤ 255 := by omega
  generalize (d : Int) = d' at HB ⊢
  generalize s.testBit x = bt at hbit ⊢
  generalize (s : Int) = s' at HB h0 h1 hbit ⊢
  cases bt with
  | false =>
    have hz := and_no h0 h1 hx hbit
    clear h0 h1 hbit hs
    have hcs : x = 0 ∨ x = 1 ∨ x = 2 ∨ x = 3 ∨ x = 4 ∨ x = 5 ∨ x = 6 ∨ x = 7 := by omega
    clear hx
    rcases hcs with rfl | rfl | rfl | rfl | rfl | rfl | rfl | rfl
    all_goals
      simp only [Int.reducePow] at hz
      go_enter Try.func64, Try.ntmps64
      go_wp2_with fail
      go_quiet (fail)
      go_wp2
      go_ret
      exact ⟨rfl, HB.out.trans (drewN_below (Below.refl _ _) _)⟩
  | true =>
    have hz := and_yes h0 h1 hx hbit
    clear h0 h1 hbit hs
    have hcs : x = 0 ∨ x = 1 ∨ x = 2 ∨ x = 3 ∨ x = 4 ∨ x = 5 ∨ x = 6 ∨ x = 7 := by omega
    clear hx
    rcases hcs with rfl | rfl | rfl | rfl | rfl | rfl | rfl | rfl
    all_goals
      simp only [Int.reducePow] at hz
      go_enter Try.func64, Try.ntmps64
      go_wp2_with fail
      go_quiet (fail)
      go_wp2
      go_ret
      exact ⟨rfl, HB.out.trans (drewN_below (Below.refl _ _) _)⟩

/-- a profile's box, and the result's. -/
def PB (w : World) (s d : Int) (W : World) : Prop := Below w.heap.size w W ∧ (W.cell? ⟨w.heap.size, 0, none⟩ = some (.int .i64 s) ∧ W.cell? ⟨w.heap.size, 1, none⟩ = some (.int .i64 d)) ∧ W.cell? ⟨w.heap.size + 1, 0, none⟩ = some (.int .i64 0) ∧ W.cell? ⟨w.heap.size + 1, 1, none⟩ = some (.int .i64 0) ∧ W.frozen? ⟨w.heap.size + 1, 0, none⟩ = false ∧ W.frozen? ⟨w.heap.size + 1, 1, none⟩ = false
theorem pb_start (w : World) (s d : Int) : PB w s d ((w.alloc (.cells #[.int .i64 s, .int .i64 d] 56)).alloc (.cells #[.int .i64 0, .int .i64 0] 56)) := by
  have e0 : (w.alloc (.cells #[.int .i64 s, .int .i64 d] 56)).heap.size = w.heap.size + 1 := by simp
  have h1 := heap_alloc_new (w.alloc (.cells #[.int .i64 s, .int .i64 d] 56)) (.cells #[.int .i64 0, .int .i64 0] 56)
  rw [e0] at h1
  have h0 : ((w.alloc (.cells #[.int .i64 s, .int .i64 d] 56)).alloc (.cells #[.int .i64 0, .int .i64 0] 56)).heap[w.heap.size]? = some (.cells #[.int .i64 s, .int .i64 d] 56) :=
    ((below_alloc1 (w.alloc (.cells #[.int .i64 s, .int .i64 d] 56)) _).block w.heap.size (by rw [e0]; omega)).trans (heap_alloc_new w _)
  exact ⟨below_alloc2 w _ _, ⟨(cellAt h0 0).1.trans rfl, (cellAt h0 1).1.trans rfl⟩, (cellAt h1 0).1.trans rfl, (cellAt h1 1).1.trans rfl, (cellAt h1 0).2, (cellAt h1 1).2⟩
theorem PB.drew {w W : World} {s d : Int} (h : PB w s d W) : PB w s d W.drew := ⟨h.1.drew, h.2⟩
theorem PB.put {w W : World} {s d : Int} (h : PB w s d W) (v u : Value) : Below w.heap.size w ((W.setCell ⟨w.heap.size + 1, 0, none⟩ v).setCell ⟨w.heap.size + 1, 1, none⟩ u) ∧ ((W.setCell ⟨w.heap.size + 1, 0, none⟩ v).setCell ⟨w.heap.size + 1, 1, none⟩ u).cell? ⟨w.heap.size + 1, 0, none⟩ = some v ∧ ((W.setCell ⟨w.heap.size + 1, 0, none⟩ v).setCell ⟨w.heap.size + 1, 1, none⟩ u).cell? ⟨w.heap.size + 1, 1, none⟩ = some u := by
  obtain ⟨h1, _, q0, q1, f0, f1⟩ := h
  refine ⟨(h1.setCell (p := ⟨w.heap.size + 1, 0, none⟩) (Nat.le_succ _) v).setCell (p := ⟨w.heap.size + 1, 1, none⟩) (Nat.le_succ _) u, ?_, ?_⟩
  · rw [World.cell?_setCell_other _ _ _ _ (by simp)]
    exact World.cell?_setCell_same _ _ _ q0
  · exact World.cell?_setCell_same _ _ _ (by rw [World.cell?_setCell_other _ _ _ _ (by simp)]; exact q1)

set_option maxRecDepth 100000 in
set_option maxHeartbeats 2000000 in
theorem iWithout (s d x : Nat) (hs : s < 256) (hd : d < 1000) (hx : x < 8) (hb : s.testBit x = true) (w : World) :
    Calls Try.prog 65 #[.agg #[.int .i64 (s : Int), .int .i64 (d : Int)], .int .i64 (x : Int)] w (Pro ((s - 2 ^ x : Nat) : Int) (d : Int) w) := by
  have T0 := Lib.hid (pb_start w (s : Int) (d : Int))
  have hz := state_andNot hs hx hb
  have hdd : IntKind.i64.wrap ((d : Int) + 1) = ((d + 1 : Nat) : Int) := by rw [wrap_is]; unfold wrap64; omega
  generalize (s - 2 ^ x : Nat) = t at hz ⊢
  generalize ((d + 1 : Nat) : Int) = d1 at hdd ⊢
  generalize (d : Int) = d' at T0 hdd ⊢
  generalize (s : Int) = s' at T0 hz ⊢
  clear hb hs hd
  have hcs : x = 0 ∨ x = 1 ∨ x = 2 ∨ x = 3 ∨ x = 4 ∨ x = 5 ∨ x = 6 ∨ x = 7 := by omega
  clear hx
  rcases hcs with rfl | rfl | rfl | rfl | rfl | rfl | rfl | rfl
  all_goals
    simp only [Int.reducePow] at hz
    go_enter Try.func65, Try.ntmps65
    go_wp2_with fail
    have T1 := T0.out
    clear T0
    generalize (w.alloc _).alloc _ = W at T1 ⊢
    obtain ⟨hB, ⟨c0, c1⟩, q0, q1, f0, f1⟩ := T1.drew
    have HP := Lib.hid T1.drew.put
    clear T1
    refine wp_region_noPanic ?_
    refine wp_region_held_drew (S := (fun w' => w'.cell? ⟨w.heap.size, 0, none⟩ = some (.int .i64 s') ∧ w'.cell? ⟨w.heap.size, 1, none⟩ = some (.int .i64 d'))) (by kernel_rfl) (⟨c0, c1⟩) (fun hHeld => ?_)
    generalize W.drew = WR at hB c0 c1 q0 q1 f0 f1 HP hHeld ⊢
    refine wpAnyH_take (i := 0) (v := ?_) rfl (by kernel_rfl) (by kernel_rfl) (by kernel_rfl) (fun _ _ _ h => h) (Or.inl ⟨by rfl, ?_⟩) (by assumption) ?_
    rotate_left
    · (intro w' hS; (try dsimp only at hS); go_simp; try with_reducible rfl)
    try simp only [Act.put, List.getElem_toArray, List.getElem_cons_succ, List.getElem_cons_zero, List.setIfInBounds_toArray, List.set_cons_zero, List.set_cons_succ]
    refine wpAnyH_take (i := 1) (v := ?_) rfl (by kernel_rfl) (by kernel_rfl) (by kernel_rfl) (fun _ _ _ h => h) (Or.inl ⟨by rfl, ?_⟩) (by assumption) ?_
    rotate_left
    · (intro w' hS; (try dsimp only at hS); go_simp; try with_reducible rfl)
    try simp only [Act.put, List.getElem_toArray, List.getElem_cons_succ, List.getElem_cons_zero, List.setIfInBounds_toArray, List.set_cons_zero, List.set_cons_succ]
    refine wpAnyH_take (i := 2) (v := ?_) rfl (by kernel_rfl) (by kernel_rfl) (by kernel_rfl) (fun _ _ _ h => h) (Or.inl ⟨by rfl, ?_⟩) (by assumption) ?_
    rotate_left
    · (intro w' hS; (try dsimp only at hS); go_simp; try with_reducible rfl)
    try simp only [Act.put, List.getElem_toArray, List.getElem_cons_succ, List.getElem_cons_zero, List.setIfInBounds_toArray, List.set_cons_zero, List.set_cons_succ]
    refine wpAnyH_take (i := 3) (v := ?_) rfl (by kernel_rfl) (by kernel_rfl) (by kernel_rfl) (fun _ _ _ h => h) (Or.inl ⟨by rfl, ?_⟩) (by assumption) ?_
    rotate_left
    · (intro w' hS; (try dsimp only at hS); go_simp; try with_reducible rfl)
    try simp only [Act.put, List.getElem_toArray, List.getElem_cons_succ, List.getElem_cons_zero, List.setIfInBounds_toArray, List.set_cons_zero, List.set_cons_succ]
    refine wpAnyH_take (i := 4) (v := ?_) rfl (by kernel_rfl) (by kernel_rfl) (by kernel_rfl) (fun _ _ _ h => h) (Or.inl ⟨by rfl, ?_⟩) (by assumption) ?_
    rotate_left
    · (intro w' hS; (try dsimp only at hS); go_simp; try with_reducible rfl)
    try simp only [Act.put, List.getElem_toArray, List.getElem_cons_succ, List.getElem_cons_zero, List.setIfInBounds_toArray, List.set_cons_zero, List.set_cons_succ]
    refine wpAnyH_take (i := 5) (v := ?_) rfl (by kernel_rfl) (by kernel_rfl) (by kernel_rfl) (fun _ _ _ h => h) (Or.inl ⟨by rfl, ?_⟩) (by assumption) ?_
    rotate_left
    · (intro w' hS; (try dsimp only at hS); go_simp; try with_reducible rfl)
    try simp only [Act.put, List.getElem_toArray, List.getElem_cons_succ, List.getElem_cons_zero, List.setIfInBounds_toArray, List.set_cons_zero, List.set_cons_succ]
    refine wpAnyH_take (i := 6) (v := ?_) rfl (by kernel_rfl) (by kernel_rfl) (by kernel_rfl) (fun _ _ _ h => h) (Or.inl ⟨by rfl, ?_⟩) (by assumption) ?_
    rotate_left
    · (intro w' hS; (try dsimp only at hS); go_simp; try with_reducible rfl)
    try simp only [Act.put, List.getElem_toArray, List.getElem_cons_succ, List.getElem_cons_zero, List.setIfInBounds_toArray, List.set_cons_zero, List.set_cons_succ]
    refine wpAnyH_take (i := 7) (v := ?_) rfl (by kernel_rfl) (by kernel_rfl) (by kernel_rfl) (fun _ _ _ h => h) (Or.inl ⟨by rfl, ?_⟩) (by assumption) ?_
    rotate_left
    · (intro w' hS; (try dsimp only at hS); go_simp; try with_reducible rfl)
    try simp only [Act.put, List.getElem_toArray, List.getElem_cons_succ, List.getElem_cons_zero, List.setIfInBounds_toArray, List.set_cons_zero, List.set_cons_succ]
    refine wpAnyH_ready (rs := [8]) (by kernel_rfl) (by simp) ?_
    refine AllReadyH.cons rfl (fun K hK => ?_) AllReadyH.nil
    go_simp
    refine hK.out _ _ (⟨(World.cell?_setCell_far _ _ _ _ (by simp)).trans ((World.cell?_setCell_far _ _ _ _ (by simp)).trans c0), (World.cell?_setCell_far _ _ _ _ (by simp)).trans ((World.cell?_setCell_far _ _ _ _ (by simp)).trans c1)⟩) (fun hHeld => ?_)
    clear hK K
    try simp only [Act.put, List.getElem_toArray, List.getElem_cons_succ, List.getElem_cons_zero, List.setIfInBounds_toArray, List.set_cons_zero, List.set_cons_succ]
    refine wpAnyH_done (by kernel_rfl) ?_ _
    refine NoPanic.normal ?_
    simp only [show IntKind.i64.wrap 1 = 1 from rfl, show IntKind.i64.wrap 2 = 2 from rfl, show IntKind.i64.wrap 4 = 4 from rfl, show IntKind.i64.wrap 8 = 8 from rfl, show IntKind.i64.wrap 16 = 16 from rfl, show IntKind.i64.wrap 32 = 32 from rfl, show IntKind.i64.wrap 64 = 64 from rfl, show IntKind.i64.wrap 128 = 128 from rfl, hz, hdd]
    have HQ := HP.out (.int .i64 (t : Int)) (.int .i64 d')
    clear HP
    generalize World.setCell _ _ _ = W4 at HQ ⊢
    obtain ⟨hB4, q4, r4⟩ := HQ
    go_wp2
    refine bodyPost_ret (v := .agg #[.int .i64 (t : Int), .int .i64 d']) ?_ rfl (mkPro rfl rfl rfl hB4)
    simp [results, Try.results65, go_sem, q4, r4]

set_option maxRecDepth 100000 in
set_option maxHeartbeats 2000000 in
theorem iWith (s d x : Nat) (hs : s < 256) (hd : d < 1000) (hx : x < 8) (hb : s.testBit x = false) (w : World) :
    Calls Try.prog 66 #[.agg #[.int .i64 (s : Int), .int .i64 (d : Int)], .int .i64 (x : Int)] w (Pro ((s + 2 ^ x : Nat) : Int) ((d + 1 : Nat) : Int) w) := by
  have T0 := Lib.hid (pb_start w (s : Int) (d : Int))
  have hz := state_or hs hx hb
  have hdd : IntKind.i64.wrap ((d : Int) + 1) = ((d + 1 : Nat) : Int) := by rw [wrap_is]; unfold wrap64; omega
  generalize (s + 2 ^ x : Nat) = t at hz ⊢
  generalize ((d + 1 : Nat) : Int) = d1 at hdd ⊢
  generalize (d : Int) = d' at T0 hdd ⊢
  generalize (s : Int) = s' at T0 hz ⊢
  clear hb hs hd
  have hcs : x = 0 ∨ x = 1 ∨ x = 2 ∨ x = 3 ∨ x = 4 ∨ x = 5 ∨ x = 6 ∨ x = 7 := by omega
  clear hx
  rcases hcs with rfl | rfl | rfl | rfl | rfl | rfl | rfl | rfl
  all_goals
    simp only [Int.reducePow] at hz
    go_enter Try.func66, Try.ntmps66
    go_wp2_with fail
    have T1 := T0.out
    clear T0
    generalize (w.alloc _).alloc _ = W at T1 ⊢
    obtain ⟨hB, ⟨c0, c1⟩, q0, q1, f0, f1⟩ := T1.drew
    have HP := Lib.hid T1.drew.put
    clear T1
    refine wp_region_noPanic ?_
    refine wp_region_held_drew (S := (fun w' => w'.cell? ⟨w.heap.size, 0, none⟩ = some (.int .i64 s') ∧ w'.cell? ⟨w.heap.size, 1, none⟩ = some (.int .i64 d'))) (by kernel_rfl) (⟨c0, c1⟩) (fun hHeld => ?_)
    generalize W.drew = WR at hB c0 c1 q0 q1 f0 f1 HP hHeld ⊢
    refine wpAnyH_take (i := 0) (v := ?_) rfl (by kernel_rfl) (by kernel_rfl) (by kernel_rfl) (fun _ _ _ h => h) (Or.inl ⟨by rfl, ?_⟩) (by assumption) ?_
    rotate_left
    · (intro w' hS; (try dsimp only at hS); go_simp; try with_reducible rfl)
    try simp only [Act.put, List.getElem_toArray, List.getElem_cons_succ, List.getElem_cons_zero, List.setIfInBounds_toArray, List.set_cons_zero, List.set_cons_succ]
    refine wpAnyH_take (i := 1) (v := ?_) rfl (by kernel_rfl) (by kernel_rfl) (by kernel_rfl) (fun _ _ _ h => h) (Or.inl ⟨by rfl, ?_⟩) (by assumption) ?_
    rotate_left
    · (intro w' hS; (try dsimp only at hS); go_simp; try with_reducible rfl)
    try simp only [Act.put, List.getElem_toArray, List.getElem_cons_succ, List.getElem_cons_zero, List.setIfInBounds_toArray, List.set_cons_zero, List.set_cons_succ]
    refine wpAnyH_take (i := 2) (v := ?_) rfl (by kernel_rfl) (by kernel_rfl) (by kernel_rfl) (fun _ _ _ h => h) (Or.inl ⟨by rfl, ?_⟩) (by assumption) ?_
    rotate_left
    · (intro w' hS; (try dsimp only at hS); go_simp; try with_reducible rfl)
    try simp only [Act.put, List.getElem_toArray, List.getElem_cons_succ, List.getElem_cons_zero, List.setIfInBounds_toArray, List.set_cons_zero, List.set_cons_succ]
    refine wpAnyH_take (i := 3) (v := ?_) rfl (by kernel_rfl) (by kernel_rfl) (by kernel_rfl) (fun _ _ _ h => h) (Or.inl ⟨by rfl, ?_⟩) (by assumption) ?_
    rotate_left
    · (intro w' hS; (try dsimp only at hS); go_simp; try with_reducible rfl)
    try simp only [Act.put, List.getElem_toArray, List.getElem_cons_succ, List.getElem_cons_zero, List.setIfInBounds_toArray, List.set_cons_zero, List.set_cons_succ]
    refine wpAnyH_take (i := 4) (v := ?_) rfl (by kernel_rfl) (by kernel_rfl) (by kernel_rfl) (fun _ _ _ h => h) (Or.inl ⟨by rfl, ?_⟩) (by assumption) ?_
    rotate_left
    · (intro w' hS; (try dsimp only at hS); go_simp; try with_reducible rfl)
    try simp only [Act.put, List.getElem_toArray, List.getElem_cons_succ, List.getElem_cons_zero, List.setIfInBounds_toArray, List.set_cons_zero, List.set_cons_succ]
    refine wpAnyH_take (i := 5) (v := ?_) rfl (by kernel_rfl) (by kernel_rfl) (by kernel_rfl) (fun _ _ _ h => h) (Or.inl ⟨by rfl, ?_⟩) (by assumption) ?_
    rotate_left
    · (intro w' hS; (try dsimp only at hS); go_simp; try with_reducible rfl)
    try simp only [Act.put, List.getElem_toArray, List.getElem_cons_succ, List.getElem_cons_zero, List.setIfInBounds_toArray, List.set_cons_zero, List.set_cons_succ]
    refine wpAnyH_take (i := 6) (v := ?_) rfl (by kernel_rfl) (by kernel_rfl) (by kernel_rfl) (fun _ _ _ h => h) (Or.inl ⟨by rfl, ?_⟩) (by assumption) ?_
    rotate_left
    · (intro w' hS; (try dsimp only at hS); go_simp; try with_reducible rfl)
    try simp only [Act.put, List.getElem_toArray, List.getElem_cons_succ, List.getElem_cons_zero, List.setIfInBounds_toArray, List.set_cons_zero, List.set_cons_succ]
    refine wpAnyH_take (i := 7) (v := ?_) rfl (by kernel_rfl) (by kernel_rfl) (by kernel_rfl) (fun _ _ _ h => h) (Or.inl ⟨by rfl, ?_⟩) (by assumption) ?_
    rotate_left
    · (intro w' hS; (try dsimp only at hS); go_simp; try with_reducible rfl)
    try simp only [Act.put, List.getElem_toArray, List.getElem_cons_succ, List.getElem_cons_zero, List.setIfInBounds_toArray, List.set_cons_zero, List.set_cons_succ]
    refine wpAnyH_take (i := 8) (v := ?_) rfl (by kernel_rfl) (by kernel_rfl) (by kernel_rfl) (fun _ _ _ h => h) (Or.inl ⟨by rfl, ?_⟩) (by assumption) ?_
    rotate_left
    · (intro w' hS; (try dsimp only at hS); go_simp; try with_reducible rfl)
    try simp only [Act.put, List.getElem_toArray, List.getElem_cons_succ, List.getElem_cons_zero, List.setIfInBounds_toArray, List.set_cons_zero, List.set_cons_succ]
    refine wpAnyH_ready (rs := [9]) (by kernel_rfl) (by simp) ?_
    refine AllReadyH.cons rfl (fun K hK => ?_) AllReadyH.nil
    go_simp
    refine hK.out _ _ (⟨(World.cell?_setCell_far _ _ _ _ (by simp)).trans ((World.cell?_setCell_far _ _ _ _ (by simp)).trans c0), (World.cell?_setCell_far _ _ _ _ (by simp)).trans ((World.cell?_setCell_far _ _ _ _ (by simp)).trans c1)⟩) (fun hHeld => ?_)
    clear hK K
    try simp only [Act.put, List.getElem_toArray, List.getElem_cons_succ, List.getElem_cons_zero, List.setIfInBounds_toArray, List.set_cons_zero, List.set_cons_succ]
    refine wpAnyH_done (by kernel_rfl) ?_ _
    refine NoPanic.normal ?_
    simp only [show IntKind.i64.wrap 1 = 1 from rfl, show IntKind.i64.wrap 2 = 2 from rfl, show IntKind.i64.wrap 4 = 4 from rfl, show IntKind.i64.wrap 8 = 8 from rfl, show IntKind.i64.wrap 16 = 16 from rfl, show IntKind.i64.wrap 32 = 32 from rfl, show IntKind.i64.wrap 64 = 64 from rfl, show IntKind.i64.wrap 128 = 128 from rfl, hz, hdd]
    have HQ := HP.out (.int .i64 (t : Int)) (.int .i64 d1)
    clear HP
    generalize World.setCell _ _ _ = W4 at HQ ⊢
    obtain ⟨hB4, q4, r4⟩ := HQ
    go_wp2
    refine bodyPost_ret (v := .agg #[.int .i64 (t : Int), .int .i64 d1]) ?_ rfl (mkPro rfl rfl rfl hB4)
    simp [results, Try.results66, go_sem, q4, r4]
end Go.Proofs.Ytcncikgcieigaaa.Prof
