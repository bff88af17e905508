/- ProF, GoP in one text. -/
import Derived.Test.YtjfagpmklifjlaaMg10
import Derived.Test.YtjfagpmklifjlaaMg07
import Derived.Deep.RegionHeld3
import Derived.BigQuiet
import Derived.StillTailTactics

namespace Go.Proofs.Ytjfagpmklifjlaa.Prof
set_option linter.unusedVariables false
set_option linter.unusedSimpArgs false
open Go.RowKit Go.Proofs.Ytjfagpmklifjlaa.Pure Go.Proofs.Ytjfagpmklifjlaa.Cell Go.Proofs.Ytjfagpmklifjlaa.Reg Go.Proofs.Ytjfagpmklifjlaa.Cnt Go.Joins

theorem wrap_is (x : Int) : IntKind.i64.wrap x = wrap64 x := by rw [IntKind.wrap_i64]; unfold wrap64; first | rfl | omega
def Pro (s d : Int) (w : World) (e : Ending) (w' : World) : Prop := e = .returned (.agg #[.int .i64 s, .int .i64 d]) ∧ Below w.heap.size w w'
theorem mkPro {s d s' d' : Int} {w w' : World} {e : Ending} (hs : s' = s) (hd : d' = d) (he : e = .returned (.agg #[.int .i64 s', .int .i64 d'])) (hb : Below w.heap.size w w') : Pro s d w e w' := ⟨by rw [he, hs, hd], hb⟩
theorem andNot_table : ∀ s : Fin 256, ∀ x : Fin 8, s.val.testBit x.val = true → bits .andNot .i64 ((s.val : Nat) : Int) ((2 ^ x.val : Nat) : Int) = ((s.val - 2 ^ x.val : Nat) : Int) := by decide +kernel
theorem state_andNot {s x : Nat} (hs : s < 256) (hx : x < 8) (h : s.testBit x = true) : bits .andNot .i64 (s : Int) (2 ^ x) = ((s - 2 ^ x : Nat) : Int) := by
 have := andNot_table ⟨s, hs⟩ ⟨x, hx⟩ h
 simpa using this

set_option maxRecDepth 100000 in
set_option maxHeartbeats 2000000 in
theorem iCovers (s d x : Nat) (hs : s < 256) (hx : x < 8) (w : World) :
  Calls Try.prog 102 #[.agg #[.int .i64 (s : Int), .int .i64 (d : Int)], .int .i64 (x : Int)] w (Bol (s.testBit x) w) := by
 have HB := Lib.hid (below_alloc1 w (.cells #[.int .i64 (s : Int), .int .i64 (d : Int)] 96))
 have hbit := state_bit hs hx
 have h0 : (0 : Int) ≤ (s : Int) := by omega
 have h1 : (s : Int) ≤ 255 := by omega
 generalize (d : Int) = d' at HB ⊢
 generalize s.testBit x = bt at hbit ⊢
 generalize (s : Int) = s' at HB h0 h1 hbit ⊢
 cases bt with
 | false =>
  have hz := and_no h0 h1 hx hbit
  clear h0 h1 hbit hs
  have hcs : x = 0 ∨ x = 1 ∨ x = 2 ∨ x = 3 ∨ x = 4 ∨ x = 5 ∨ x = 6 ∨ x = 7 := by omega
  clear hx
  rcases hcs with rfl | rfl | rfl | rfl | rfl | rfl | rfl | rfl
  all_goals
   simp only [Int.reducePow] at hz
   go_enter Try.func102, Try.ntmps102
   go_wp2_with fail
   go_quiet (fail)
   go_wp2
   go_ret
   exact ⟨rfl, HB.out.trans (drewN_below (Below.refl _ _) _)⟩
 | true =>
  have hz := and_yes h0 h1 hx hbit
  clear h0 h1 hbit hs
  have hcs : x = 0 ∨ x = 1 ∨ x = 2 ∨ x = 3 ∨ x = 4 ∨ x = 5 ∨ x = 6 ∨ x = 7 := by omega
  clear hx
  rcases hcs with rfl | rfl | rfl | rfl | rfl | rfl | rfl | rfl
  all_goals
   simp only [Int.reducePow] at hz
   go_enter Try.func102, Try.ntmps102
   go_wp2_with fail
   go_quiet (fail)
   go_wp2
   go_ret
   exact ⟨rfl, HB.out.trans (drewN_below (Below.refl _ _) _)⟩

def PB (w : World) (s d : Int) (W : World) : Prop := Below w.heap.size w W ∧ (W.cell? ⟨w.heap.size, 0, none⟩ = some (.int .i64 s) ∧ W.cell? ⟨w.heap.size, 1, none⟩ = some (.int .i64 d)) ∧ W.cell? ⟨w.heap.size + 1, 0, none⟩ = some (.int .i64 0) ∧ W.cell? ⟨w.heap.size + 1, 1, none⟩ = some (.int .i64 0) ∧ W.frozen? ⟨w.heap.size + 1, 0, none⟩ = false ∧ W.frozen? ⟨w.heap.size + 1, 1, none⟩ = false
theorem pb_start (w : World) (s d : Int) : PB w s d ((w.alloc (.cells #[.int .i64 s, .int .i64 d] 96)).alloc (.cells #[.int .i64 0, .int .i64 0] 96)) := by
 have e0 : (w.alloc (.cells #[.int .i64 s, .int .i64 d] 96)).heap.size = w.heap.size + 1 := by simp
 have h1 := heap_alloc_new (w.alloc (.cells #[.int .i64 s, .int .i64 d] 96)) (.cells #[.int .i64 0, .int .i64 0] 96)
 rw [e0] at h1
 have h0 : ((w.alloc (.cells #[.int .i64 s, .int .i64 d] 96)).alloc (.cells #[.int .i64 0, .int .i64 0] 96)).heap[w.heap.size]? = some (.cells #[.int .i64 s, .int .i64 d] 96) :=
  ((below_alloc1 (w.alloc (.cells #[.int .i64 s, .int .i64 d] 96)) _).block w.heap.size (by rw [e0]; omega)).trans (heap_alloc_new w _)
 exact ⟨below_alloc2 w _ _, ⟨(cellAt h0 0).1.trans rfl, (cellAt h0 1).1.trans rfl⟩, (cellAt h1 0).1.trans rfl, (cellAt h1 1).1.trans rfl, (cellAt h1 0).2, (cellAt h1 1).2⟩
theorem PB.drew {w W : World} {s d : Int} (h : PB w s d W) : PB w s d W.drew := ⟨h.1.drew, h.2⟩
theorem PB.put {w W : World} {s d : Int} (h : PB w s d W) (v u : Value) : Below w.heap.size w ((W.setCell ⟨w.heap.size + 1, 0, none⟩ v).setCell ⟨w.heap.size + 1, 1, none⟩ u) ∧ ((W.setCell ⟨w.heap.size + 1, 0, none⟩ v).setCell ⟨w.heap.size + 1, 1, none⟩ u).cell? ⟨w.heap.size + 1, 0, none⟩ = some v ∧ ((W.setCell ⟨w.heap.size + 1, 0, none⟩ v).setCell ⟨w.heap.size + 1, 1, none⟩ u).cell? ⟨w.heap.size + 1, 1, none⟩ = some u := by
 obtain ⟨h1, _, q0, q1, f0, f1⟩ := h
 refine ⟨(h1.setCell (p := ⟨w.heap.size + 1, 0, none⟩) (Nat.le_succ _) v).setCell (p := ⟨w.heap.size + 1, 1, none⟩) (Nat.le_succ _) u, ?_, ?_⟩
 ·rw [World.cell?_setCell_other _ _ _ _ (by simp)]
  exact World.cell?_setCell_same _ _ _ q0
 ·exact World.cell?_setCell_same _ _ _ (by rw [World.cell?_setCell_other _ _ _ _ (by simp)]; exact q1)

set_option maxRecDepth 100000 in
set_option maxHeartbeats 2000000 in
theorem iWithout (s d x : Nat) (hs : s < 256) (hd : d < 1000) (hx : x < 8) (hb : s.testBit x = true) (w : World) :
  Calls Try.prog 103 #[.agg #[.int .i64 (s : Int), .int .i64 (d : Int)], .int .i64 (x : Int)] w (Pro ((s - 2 ^ x : Nat) : Int) (d : Int) w) := by
 have T0 := Lib.hid (pb_start w (s : Int) (d : Int))
 have hz := state_andNot hs hx hb
 have hdd : IntKind.i64.wrap ((d : Int) + 1) = ((d + 1 : Nat) : Int) := by rw [wrap_is]; unfold wrap64; omega
 generalize (s - 2 ^ x : Nat) = t at hz ⊢
 generalize ((d + 1 : Nat) : Int) = d1 at hdd ⊢
 generalize (d : Int) = d' at T0 hdd ⊢
 generalize (s : Int) = s' at T0 hz ⊢
 clear hb hs hd
 have hcs : x = 0 ∨ x = 1 ∨ x = 2 ∨ x = 3 ∨ x = 4 ∨ x = 5 ∨ x = 6 ∨ x = 7 := by omega
 clear hx
 rcases hcs with rfl | rfl | rfl | rfl | rfl | rfl | rfl | rfl
 all_goals
  simp only [Int.reducePow] at hz
  go_enter Try.func103, Try.ntmps103
  go_wp2_with fail
  have T1 := T0.out
  clear T0
  generalize (w.alloc _).alloc _ = W at T1 ⊢
  obtain ⟨hB, ⟨c0, c1⟩, q0, q1, f0, f1⟩ := T1.drew
  have HP := Lib.hid T1.drew.put
  clear T1
  refine wp_region_noPanic ?_
  refine wp_region_held_drew (S := (fun w' => w'.cell? ⟨w.heap.size, 0, none⟩ = some (.int .i64 s') ∧ w'.cell? ⟨w.heap.size, 1, none⟩ = some (.int .i64 d'))) (by kernel_rfl) (⟨c0, c1⟩) (fun hHeld => ?_)
  generalize W.drew = WR at hB c0 c1 q0 q1 f0 f1 HP hHeld ⊢
  refine wpAnyH_take (i := 0) (v := ?_) rfl (by kernel_rfl) (by kernel_rfl) (by kernel_rfl) (fun _ _ _ h => h) (Or.inl ⟨by rfl, ?_⟩) (by assumption) ?_
  rotate_left
  ·(intro w' hS; (try dsimp only at hS); go_simp; try with_reducible rfl)
  try simp only [Act.put, List.getElem_toArray, List.getElem_cons_succ, List.getElem_cons_zero, List.setIfInBounds_toArray, List.set_cons_zero, List.set_cons_succ]
  refine wpAnyH_take (i := 1) (v := ?_) rfl (by kernel_rfl) (by kernel_rfl) (by kernel_rfl) (fun _ _ _ h => h) (Or.inl ⟨by rfl, ?_⟩) (by assumption) ?_
  rotate_left
  ·(intro w' hS; (try dsimp only at hS); go_simp; try with_reducible rfl)
  try simp only [Act.put, List.getElem_toArray, List.getElem_cons_succ, List.getElem_cons_zero, List.setIfInBounds_toArray, List.set_cons_zero, List.set_cons_succ]
  refine wpAnyH_take (i := 2) (v := ?_) rfl (by kernel_rfl) (by kernel_rfl) (by kernel_rfl) (fun _ _ _ h => h) (Or.inl ⟨by rfl, ?_⟩) (by assumption) ?_
  rotate_left
  ·(intro w' hS; (try dsimp only at hS); go_simp; try with_reducible rfl)
  try simp only [Act.put, List.getElem_toArray, List.getElem_cons_succ, List.getElem_cons_zero, List.setIfInBounds_toArray, List.set_cons_zero, List.set_cons_succ]
  refine wpAnyH_take (i := 3) (v := ?_) rfl (by kernel_rfl) (by kernel_rfl) (by kernel_rfl) (fun _ _ _ h => h) (Or.inl ⟨by rfl, ?_⟩) (by assumption) ?_
  rotate_left
  ·(intro w' hS; (try dsimp only at hS); go_simp; try with_reducible rfl)
  try simp only [Act.put, List.getElem_toArray, List.getElem_cons_succ, List.getElem_cons_zero, List.setIfInBounds_toArray, List.set_cons_zero, List.set_cons_succ]
  refine wpAnyH_take (i := 4) (v := ?_) rfl (by kernel_rfl) (by kernel_rfl) (by kernel_rfl) (fun _ _ _ h => h) (Or.inl ⟨by rfl, ?_⟩) (by assumption) ?_
  rotate_left
  ·(intro w' hS; (try dsimp only at hS); go_simp; try with_reducible rfl)
  try simp only [Act.put, List.getElem_toArray, List.getElem_cons_succ, List.getElem_cons_zero, List.setIfInBounds_toArray, List.set_cons_zero, List.set_cons_succ]
  refine wpAnyH_take (i := 5) (v := ?_) rfl (by kernel_rfl) (by kernel_rfl) (by kernel_rfl) (fun _ _ _ h => h) (Or.inl ⟨by rfl, ?_⟩) (by assumption) ?_
  rotate_left
  ·(intro w' hS; (try dsimp only at hS); go_simp; try with_reducible rfl)
  try simp only [Act.put, List.getElem_toArray, List.getElem_cons_succ, List.getElem_cons_zero, List.setIfInBounds_toArray, List.set_cons_zero, List.set_cons_succ]
  refine wpAnyH_take (i := 6) (v := ?_) rfl (by kernel_rfl) (by kernel_rfl) (by kernel_rfl) (fun _ _ _ h => h) (Or.inl ⟨by rfl, ?_⟩) (by assumption) ?_
  rotate_left
  ·(intro w' hS; (try dsimp only at hS); go_simp; try with_reducible rfl)
  try simp only [Act.put, List.getElem_toArray, List.getElem_cons_succ, List.getElem_cons_zero, List.setIfInBounds_toArray, List.set_cons_zero, List.set_cons_succ]
  refine wpAnyH_take (i := 7) (v := ?_) rfl (by kernel_rfl) (by kernel_rfl) (by kernel_rfl) (fun _ _ _ h => h) (Or.inl ⟨by rfl, ?_⟩) (by assumption) ?_
  rotate_left
  ·(intro w' hS; (try dsimp only at hS); go_simp; try with_reducible rfl)
  try simp only [Act.put, List.getElem_toArray, List.getElem_cons_succ, List.getElem_cons_zero, List.setIfInBounds_toArray, List.set_cons_zero, List.set_cons_succ]
  refine wpAnyH_ready (rs := [8]) (by kernel_rfl) (by simp) ?_
  refine AllReadyH.cons rfl (fun K hK => ?_) AllReadyH.nil
  go_simp
  refine hK.out _ _ (⟨(World.cell?_setCell_far _ _ _ _ (by simp)).trans ((World.cell?_setCell_far _ _ _ _ (by simp)).trans c0), (World.cell?_setCell_far _ _ _ _ (by simp)).trans ((World.cell?_setCell_far _ _ _ _ (by simp)).trans c1)⟩) (fun hHeld => ?_)
  clear hK K
  try simp only [Act.put, List.getElem_toArray, List.getElem_cons_succ, List.getElem_cons_zero, List.setIfInBounds_toArray, List.set_cons_zero, List.set_cons_succ]
  refine wpAnyH_done (by kernel_rfl) ?_ _
  refine NoPanic.normal ?_
  simp only [show IntKind.i64.wrap 1 = 1 from rfl, show IntKind.i64.wrap 2 = 2 from rfl, show IntKind.i64.wrap 4 = 4 from rfl, show IntKind.i64.wrap 8 = 8 from rfl, show IntKind.i64.wrap 16 = 16 from rfl, show IntKind.i64.wrap 32 = 32 from rfl, show IntKind.i64.wrap 64 = 64 from rfl, show IntKind.i64.wrap 128 = 128 from rfl, hz, hdd]
  have HQ := HP.out (.int .i64 (t : Int)) (.int .i64 d')
  clear HP
  generalize World.setCell _ _ _ = W4 at HQ ⊢
  obtain ⟨hB4, q4, r4⟩ := HQ
  go_wp2
  refine bodyPost_ret (v := .agg #[.int .i64 (t : Int), .int .i64 d']) ?_ rfl (mkPro rfl rfl rfl hB4)
  simp [results, Try.results103, go_sem, q4, r4]

set_option maxRecDepth 100000 in
set_option maxHeartbeats 2000000 in
theorem iWith (s d x : Nat) (hs : s < 256) (hd : d < 1000) (hx : x < 8) (hb : s.testBit x = false) (w : World) :
  Calls Try.prog 104 #[.agg #[.int .i64 (s : Int), .int .i64 (d : Int)], .int .i64 (x : Int)] w (Pro ((s + 2 ^ x : Nat) : Int) ((d + 1 : Nat) : Int) w) := by
 have T0 := Lib.hid (pb_start w (s : Int) (d : Int))
 have hz := state_or hs hx hb
 have hdd : IntKind.i64.wrap ((d : Int) + 1) = ((d + 1 : Nat) : Int) := by rw [wrap_is]; unfold wrap64; omega
 generalize (s + 2 ^ x : Nat) = t at hz ⊢
 generalize ((d + 1 : Nat) : Int) = d1 at hdd ⊢
 generalize (d : Int) = d' at T0 hdd ⊢
 generalize (s : Int) = s' at T0 hz ⊢
 clear hb hs hd
 have hcs : x = 0 ∨ x = 1 ∨ x = 2 ∨ x = 3 ∨ x = 4 ∨ x = 5 ∨ x = 6 ∨ x = 7 := by omega
 clear hx
 rcases hcs with rfl | rfl | rfl | rfl | rfl | rfl | rfl | rfl
 all_goals
  simp only [Int.reducePow] at hz
  go_enter Try.func104, Try.ntmps104
  go_wp2_with fail
  have T1 := T0.out
  clear T0
  generalize (w.alloc _).alloc _ = W at T1 ⊢
  obtain ⟨hB, ⟨c0, c1⟩, q0, q1, f0, f1⟩ := T1.drew
  have HP := Lib.hid T1.drew.put
  clear T1
  refine wp_region_noPanic ?_
  refine wp_region_held_drew (S := (fun w' => w'.cell? ⟨w.heap.size, 0, none⟩ = some (.int .i64 s') ∧ w'.cell? ⟨w.heap.size, 1, none⟩ = some (.int .i64 d'))) (by kernel_rfl) (⟨c0, c1⟩) (fun hHeld => ?_)
  generalize W.drew = WR at hB c0 c1 q0 q1 f0 f1 HP hHeld ⊢
  refine wpAnyH_take (i := 0) (v := ?_) rfl (by kernel_rfl) (by kernel_rfl) (by kernel_rfl) (fun _ _ _ h => h) (Or.inl ⟨by rfl, ?_⟩) (by assumption) ?_
  rotate_left
  ·(intro w' hS; (try dsimp only at hS); go_simp; try with_reducible rfl)
  try simp only [Act.put, List.getElem_toArray, List.getElem_cons_succ, List.getElem_cons_zero, List.setIfInBounds_toArray, List.set_cons_zero, List.set_cons_succ]
  refine wpAnyH_take (i := 1) (v := ?_) rfl (by kernel_rfl) (by kernel_rfl) (by kernel_rfl) (fun _ _ _ h => h) (Or.inl ⟨by rfl, ?_⟩) (by assumption) ?_
  rotate_left
  ·(intro w' hS; (try dsimp only at hS); go_simp; try with_reducible rfl)
  try simp only [Act.put, List.getElem_toArray, List.getElem_cons_succ, List.getElem_cons_zero, List.setIfInBounds_toArray, List.set_cons_zero, List.set_cons_succ]
  refine wpAnyH_take (i := 2) (v := ?_) rfl (by kernel_rfl) (by kernel_rfl) (by kernel_rfl) (fun _ _ _ h => h) (Or.inl ⟨by rfl, ?_⟩) (by assumption) ?_
  rotate_left
  ·(intro w' hS; (try dsimp only at hS); go_simp; try with_reducible rfl)
  try simp only [Act.put, List.getElem_toArray, List.getElem_cons_succ, List.getElem_cons_zero, List.setIfInBounds_toArray, List.set_cons_zero, List.set_cons_succ]
  refine wpAnyH_take (i := 3) (v := ?_) rfl (by kernel_rfl) (by kernel_rfl) (by kernel_rfl) (fun _ _ _ h => h) (Or.inl ⟨by rfl, ?_⟩) (by assumption) ?_
  rotate_left
  ·(intro w' hS; (try dsimp only at hS); go_simp; try with_reducible rfl)
  try simp only [Act.put, List.getElem_toArray, List.getElem_cons_succ, List.getElem_cons_zero, List.setIfInBounds_toArray, List.set_cons_zero, List.set_cons_succ]
  refine wpAnyH_take (i := 4) (v := ?_) rfl (by kernel_rfl) (by kernel_rfl) (by kernel_rfl) (fun _ _ _ h => h) (Or.inl ⟨by rfl, ?_⟩) (by assumption) ?_
  rotate_left
  ·(intro w' hS; (try dsimp only at hS); go_simp; try with_reducible rfl)
  try simp only [Act.put, List.getElem_toArray, List.getElem_cons_succ, List.getElem_cons_zero, List.setIfInBounds_toArray, List.set_cons_zero, List.set_cons_succ]
  refine wpAnyH_take (i := 5) (v := ?_) rfl (by kernel_rfl) (by kernel_rfl) (by kernel_rfl) (fun _ _ _ h => h) (Or.inl ⟨by rfl, ?_⟩) (by assumption) ?_
  rotate_left
  ·(intro w' hS; (try dsimp only at hS); go_simp; try with_reducible rfl)
  try simp only [Act.put, List.getElem_toArray, List.getElem_cons_succ, List.getElem_cons_zero, List.setIfInBounds_toArray, List.set_cons_zero, List.set_cons_succ]
  refine wpAnyH_take (i := 6) (v := ?_) rfl (by kernel_rfl) (by kernel_rfl) (by kernel_rfl) (fun _ _ _ h => h) (Or.inl ⟨by rfl, ?_⟩) (by assumption) ?_
  rotate_left
  ·(intro w' hS; (try dsimp only at hS); go_simp; try with_reducible rfl)
  try simp only [Act.put, List.getElem_toArray, List.getElem_cons_succ, List.getElem_cons_zero, List.setIfInBounds_toArray, List.set_cons_zero, List.set_cons_succ]
  refine wpAnyH_take (i := 7) (v := ?_) rfl (by kernel_rfl) (by kernel_rfl) (by kernel_rfl) (fun _ _ _ h => h) (Or.inl ⟨by rfl, ?_⟩) (by assumption) ?_
  rotate_left
  ·(intro w' hS; (try dsimp only at hS); go_simp; try with_reducible rfl)
  try simp only [Act.put, List.getElem_toArray, List.getElem_cons_succ, List.getElem_cons_zero, List.setIfInBounds_toArray, List.set_cons_zero, List.set_cons_succ]
  refine wpAnyH_take (i := 8) (v := ?_) rfl (by kernel_rfl) (by kernel_rfl) (by kernel_rfl) (fun _ _ _ h => h) (Or.inl ⟨by rfl, ?_⟩) (by assumption) ?_
  rotate_left
  ·(intro w' hS; (try dsimp only at hS); go_simp; try with_reducible rfl)
  try simp only [Act.put, List.getElem_toArray, List.getElem_cons_succ, List.getElem_cons_zero, List.setIfInBounds_toArray, List.set_cons_zero, List.set_cons_succ]
  refine wpAnyH_ready (rs := [9]) (by kernel_rfl) (by simp) ?_
  refine AllReadyH.cons rfl (fun K hK => ?_) AllReadyH.nil
  go_simp
  refine hK.out _ _ (⟨(World.cell?_setCell_far _ _ _ _ (by simp)).trans ((World.cell?_setCell_far _ _ _ _ (by simp)).trans c0), (World.cell?_setCell_far _ _ _ _ (by simp)).trans ((World.cell?_setCell_far _ _ _ _ (by simp)).trans c1)⟩) (fun hHeld => ?_)
  clear hK K
  try simp only [Act.put, List.getElem_toArray, List.getElem_cons_succ, List.getElem_cons_zero, List.setIfInBounds_toArray, List.set_cons_zero, List.set_cons_succ]
  refine wpAnyH_done (by kernel_rfl) ?_ _
  refine NoPanic.normal ?_
  simp only [show IntKind.i64.wrap 1 = 1 from rfl, show IntKind.i64.wrap 2 = 2 from rfl, show IntKind.i64.wrap 4 = 4 from rfl, show IntKind.i64.wrap 8 = 8 from rfl, show IntKind.i64.wrap 16 = 16 from rfl, show IntKind.i64.wrap 32 = 32 from rfl, show IntKind.i64.wrap 64 = 64 from rfl, show IntKind.i64.wrap 128 = 128 from rfl, hz, hdd]
  have HQ := HP.out (.int .i64 (t : Int)) (.int .i64 d1)
  clear HP
  generalize World.setCell _ _ _ = W4 at HQ ⊢
  obtain ⟨hB4, q4, r4⟩ := HQ
  go_wp2
  refine bodyPost_ret (v := .agg #[.int .i64 (t : Int), .int .i64 d1]) ?_ rfl (mkPro rfl rfl rfl hB4)
  simp [results, Try.results104, go_sem, q4, r4]
end Go.Proofs.Ytjfagpmklifjlaa.Prof

namespace Go.Proofs.Ytjfagpmklifjlaa.Prof
set_option linter.unusedVariables false
set_option linter.unusedSimpArgs false
open Go.RowKit Go.Proofs.Ytjfagpmklifjlaa.Reg Go.Proofs.Ytjfagpmklifjlaa.Cnt Go.Joins
open Go.Maps (Keyed)

def dn (D : DataW Unit) (left : Lit → Bool) (i : Nat) : Int := if left (kI i) = true then 0 else vw D i
def LK (left : Lit → Bool) (g : Nat → Bool) (k q : Nat) : Prop := ∀ kl, left kl = true → ∃ i, i < 256 * (q + 1) ∧ kl = kI i ∧ Vd g k (i % 256)
def PS (g : Nat → Bool) (fr : Bool) (k q : Nat) (Db : DataW Unit) (left : Lit → Bool) (Da : DataW Unit) (c : Int) (E : Nat → Nat) : Prop :=
 KD Da g (k + 1) (q + 1) ∧ ∀ N, D (sumV g fr N (63 - k + 1) k (dn Db left)) (sumV g fr N (63 - k) (k + 1) (vw Da) + c * (E N : Int))
def LS (g : Nat → Bool) (fr : Bool) (k q : Nat) (Db : DataW Unit) (left : Lit → Bool) (Da : DataW Unit) : Prop := LK left g k q ∧ PS g fr k q Db left Da 0 (fun _ => 0)
def GoR (g : Nat → Bool) (fr : Bool) (k q : Nat) (Db Da : DataW Unit) : Prop := KD Da g (k + 1) (q + 1) ∧ ∀ N, D (sumV g fr N (63 - k + 1) k (vw Db)) (sumV g fr N (63 - k) (k + 1) (vw Da))
section
variable {g : Nat → Bool} {fr : Bool} {k q : Nat} {Db Da : DataW Unit} {left : Lit → Bool} {c : Int} {E : Nat → Nat}
theorem LS.start (h : KD Db g k q) : LS g fr k q Db (Maps.has Db) (.map []) := by
 refine ⟨h, KD.none, fun N => ?_⟩
 have e : ∀ i, dn Db (Maps.has Db) i = 0 := fun i => by
  unfold dn
  by_cases p : Maps.has Db (kI i) = true
  ·exact if_pos p
  ·rw [if_neg p]; exact at2_not (by simpa using p)
 rw [sumV_congr (b := fun _ => 0) (fun i _ => e i), sumV_congr (a := vw (.map [])) (b := fun _ => 0) (fun i _ => vw_none i)]
 unfold sumV
 rw [si_zero (fun i _ => Int.zero_mul _), si_zero (fun i _ => Int.zero_mul _)]
 simp only [Int.zero_mul, Int.add_zero]
 exact D.refl 0
theorem LS.next (h : LS g fr k q Db left Da) (hq : q ≤ 63) {i : Nat} (hi : i < 256 * (q + 1)) (hl : left (kI i) = true) (hat : Db.atKey (kI i) (.lit (.int .i64 0)) = .lit (.int .i64 c)) :
  LK (fun z => left z && !z.sameKey (kI i)) g k q ∧ PS g fr k q Db (fun z => left z && !z.sameKey (kI i)) Da c (fun N => V g fr N (63 - k + 1) k (i % 256) (i / 256)) := by
 obtain ⟨h1, h2, h3⟩ := h
 refine ⟨fun kl hk => h1 kl (by simp only [Bool.and_eq_true] at hk; exact hk.1), h2, fun N => ?_⟩
 have h3 := h3 N
 rw [Int.zero_mul, Int.add_zero] at h3
 have e : ∀ j, j < 16640 → dn Db (fun z => left z && !z.sameKey (kI i)) j = upd (dn Db left) i c j := fun j hj => by
  have hs := same_kI (i := j) (j := i) (by omega) (by omega)
  by_cases p : j = i
  ·subst p
   rw [upd_at]; unfold dn
   simp only [hs, decide_true, Bool.not_true, Bool.and_false]
   exact at2_of hat
  ·rw [upd_ne p]; unfold dn
   simp [hs, p]
 rw [sumV_congr e, sumV_set (by omega) (by unfold dn; exact if_pos hl)]
 exact h3.add (D.refl _)
theorem PS.raise {t : Nat} (h : PS g fr k q Db left Da c (fun N => V g fr N (63 - k) (k + 1) (t % 256) (t / 256) + E N)) (hD : Maps.IsMap Da) (hq : q ≤ 63) (ht : t < 256 * (q + 2)) (hv : Vd g (k + 1) (t % 256)) :
  PS g fr k q Db left (Da.put (kI t) (.lit (.int .i64 (wrap64 (vw Da t + c))))) c E := by
 obtain ⟨h2, h3⟩ := h
 refine ⟨h2.put hD (by omega) hv _, fun N => ?_⟩
 rw [sumV_congr (fun i hi => vw_put hD (t := t) (by omega) _ (by omega))]
 refine (h3 N).trans ?_
 rw [Int.natCast_add, Int.mul_add, ← Int.add_assoc]
 exact (sumV_add (D.refl _) (by omega)).add (D.refl _)
theorem PS.same {E' : Nat → Nat} (h : PS g fr k q Db left Da c E) (e : ∀ N, E N = E' N) : PS g fr k q Db left Da c E' := by
 have : E = E' := funext e
 rw [← this]; exact h
theorem PS.done (h : PS g fr k q Db left Da c (fun _ => 0)) (hl : LK left g k q) : LS g fr k q Db left Da := ⟨hl, h.1, fun N => by
 have := h.2 N
 simpa using this⟩
theorem LS.done (h : LS g fr k q Db left Da) (hl : ∀ kl, left kl = false) : GoR g fr k q Db Da := ⟨h.2.1, fun N => by
 have := h.2.2 N
 rw [Int.zero_mul, Int.add_zero] at this
 rw [sumV_congr (b := vw Db) (fun i _ => by unfold dn; rw [hl]; simp)] at this
 exact this⟩
end
def BxG (w : World) (v : Value) (x y : Nat) (W : World) : Prop := Below w.heap.size w W ∧ w.heap.size + 2 ≤ W.heap.size ∧ W.cell? ⟨w.heap.size, 0, none⟩ = some v ∧ W.cell? ⟨w.heap.size + 1, 0, none⟩ = some (.int .i64 (x : Int)) ∧ W.cell? ⟨w.heap.size + 1, 1, none⟩ = some (.int .i64 (y : Int))
section
variable {w W W' : World} {v : Value} {x y m m2 r p : Nat} {Db Da : DataW Unit} {left : Lit → Bool} {cnt : Nat}
theorem BxG.grown {row : Option Nat} (h : BxG w v x y W) (hg : W.grownBy W' row) (hr : ∀ j, row = some j → w.heap.size + 2 ≤ j) : BxG w v x y W' := by
 obtain ⟨h0, h1, h2, h3, h4⟩ := h
 have hne : ∀ j, j < w.heap.size + 2 → some j ≠ row := fun j hj e => by have := hr j e.symm; omega
 have hz := hg.size
 refine ⟨h0.grown hg (by omega) (fun j e => by have := hr j e; omega), by omega, ?_, ?_, ?_⟩
 ·exact (World.cell?_of_block (hg.block w.heap.size (by omega) (hne _ (by omega)))).trans h2
 ·exact (World.cell?_of_block (hg.block (w.heap.size + 1) (by omega) (hne _ (by omega)))).trans h3
 ·exact (World.cell?_of_block (hg.block (w.heap.size + 1) (by omega) (hne _ (by omega)))).trans h4
theorem grown_of (hb : Below W.heap.size W W') : W.grownBy W' none := ⟨hb.os, hb.tape, hb.output, hb.size, fun k hk _ => hb.block k hk⟩
theorem BxG.on (h : BxG w v x y W) (hb : Below W.heap.size W W') : BxG w v x y W' := h.grown (grown_of hb) (fun j e => by cases e)
theorem bxG_start (w : World) (v : Value) (x y : Nat) (T T' : TypeId) : BxG w v x y ((w.alloc (.cells #[v] T)).alloc (.cells #[.int .i64 (x : Int), .int .i64 (y : Int)] T')) := by
 have e0 : (w.alloc (.cells #[v] T)).heap.size = w.heap.size + 1 := by simp
 have h1 := heap_alloc_new (w.alloc (.cells #[v] T)) (.cells #[.int .i64 (x : Int), .int .i64 (y : Int)] T')
 rw [e0] at h1
 have h0 : ((w.alloc (.cells #[v] T)).alloc (.cells #[.int .i64 (x : Int), .int .i64 (y : Int)] T')).heap[w.heap.size]? = some (.cells #[v] T) :=
  ((below_alloc1 (w.alloc (.cells #[v] T)) _).block w.heap.size (by rw [e0]; omega)).trans (heap_alloc_new w _)
 exact ⟨below_alloc2 w _ _, by simp, (cellAt h0 0).1.trans rfl, (cellAt h1 0).1.trans rfl, (cellAt h1 1).1.trans rfl⟩
def WL (w : World) (v : Value) (x y m m2 r : Nat) (Db : DataW Unit) (left : Lit → Bool) (cnt : Nat) (Da : DataW Unit) (W : World) : Prop :=
 BxG w v x y W ∧ W.ranges Try.prog 96 RE m r 20000 Db left cnt ∧ Own W m2 Da ∧ m < w.heap.size ∧ w.heap.size + 2 ≤ m2 ∧ m2 < r
theorem WL.on (h : WL w v x y m m2 r Db left cnt Da W) (hb : Below W.heap.size W W') : WL w v x y m m2 r Db left cnt Da W' := by
 obtain ⟨h1, h2, h3, h4, h5, h6⟩ := h
 exact ⟨h1.on hb, h2.kept (grown_of hb) (by simp) (by simp), h3.on hb, h4, h5, h6⟩
theorem WL.rlt (h : WL w v x y m m2 r Db left cnt Da W) : r < W.heap.size := h.2.1.lt
theorem WL.raised {Da' : DataW Unit} (h : WL w v x y m m2 r Db left cnt Da W) (hg : W.grownBy W' (some m2)) (ho : Own W' m2 Da') : WL w v x y m m2 r Db left cnt Da' W' := by
 obtain ⟨h1, h2, h3, h4, h5, h6⟩ := h
 exact ⟨h1.grown hg (fun j e => by cases e; exact h5), h2.kept hg (fun e => by have := Option.some.inj e; omega) (fun e => by have := Option.some.inj e; omega), ho, h4, h5, h6⟩
theorem WL.step {left' : Lit → Bool} {cnt' : Nat} (h : WL w v x y m m2 r Db left cnt Da W) (hg : W.grownBy W' (some r)) (hr : W'.ranges Try.prog 96 RE m r 20000 Db left' cnt') : WL w v x y m m2 r Db left' cnt' Da W' := by
 obtain ⟨h1, h2, h3, h4, h5, h6⟩ := h
 exact ⟨h1.grown hg (fun j e => by cases e; omega), hr, World.ownsMap.kept h3 hg (fun e => by have := Option.some.inj e; omega), h4, h5, h6⟩
def WP (w : World) (v : Value) (x y m m2 r : Nat) (Db : DataW Unit) (left : Lit → Bool) (cnt : Nat) (p : Nat) (s d : Nat) (Da : DataW Unit) (W : World) : Prop :=
 WL w v x y m m2 r Db left cnt Da W ∧ r < p ∧ W.heap[p]? = some (.cells #[.int .i64 (s : Int), .int .i64 (d : Int)] 96)
variable {s d : Nat}
theorem WP.on (h : WP w v x y m m2 r Db left cnt p s d Da W) (hb : Below W.heap.size W W') : WP w v x y m m2 r Db left cnt p s d Da W' :=
 ⟨h.1.on hb, h.2.1, (hb.block p (Array.getElem?_eq_some_iff.1 h.2.2).1).trans h.2.2⟩
theorem WP.drew (h : WP w v x y m m2 r Db left cnt p s d Da W) : WP w v x y m m2 r Db left cnt p s d Da W.drew := h.on (drewN_below (Below.refl _ _) 1)
theorem WP.raised {Da' : DataW Unit} (h : WP w v x y m m2 r Db left cnt p s d Da W) (hg : W.grownBy W' (some m2)) (ho : Own W' m2 Da') : WP w v x y m m2 r Db left cnt p s d Da' W' :=
 ⟨h.1.raised hg ho, h.2.1, (hg.block p (Array.getElem?_eq_some_iff.1 h.2.2).1 (fun e => by have := Option.some.inj e; have := h.1.2.2.2.2.2; have := h.2.1; omega)).trans h.2.2⟩
theorem wp_start (h : WL w v x y m m2 r Db left cnt Da W) : WP w v x y m m2 r Db left cnt W.heap.size s d Da (W.alloc (.cells #[.int .i64 (s : Int), .int .i64 (d : Int)] 96)) :=
 ⟨h.on (below_alloc1 W _), h.rlt, heap_alloc_new W _⟩
theorem WP.reads (h : WP w v x y m m2 r Db left cnt p s d Da W) : W.cell? ⟨p, 0, none⟩ = some (.int .i64 (s : Int)) ∧ W.cell? ⟨p, 1, none⟩ = some (.int .i64 (d : Int)) ∧ W.cell? ⟨w.heap.size + 1, 0, none⟩ = some (.int .i64 (x : Int)) :=
 ⟨(cellAt h.2.2 0).1.trans rfl, (cellAt h.2.2 1).1.trans rfl, h.1.1.2.2.2.1⟩
theorem WP.keeps (h : WP w v x y m m2 r Db left cnt p s d Da W) (hg : W.grownBy W' (some m2)) : W'.cell? ⟨p, 0, none⟩ = some (.int .i64 (s : Int)) ∧ W'.cell? ⟨p, 1, none⟩ = some (.int .i64 (d : Int)) ∧ W'.cell? ⟨w.heap.size + 1, 0, none⟩ = some (.int .i64 (x : Int)) := by
 have hb := h.1.1.grown hg (fun j e => by cases e; exact h.1.2.2.2.2.1)
 have hp : W'.heap[p]? = some (.cells #[.int .i64 (s : Int), .int .i64 (d : Int)] 96) :=
  (hg.block p (Array.getElem?_eq_some_iff.1 h.2.2).1 (fun e => by have := Option.some.inj e; have := h.1.2.2.2.2.2; have := h.2.1; omega)).trans h.2.2
 exact ⟨(cellAt hp 0).1.trans rfl, (cellAt hp 1).1.trans rfl, hb.2.2.2.1⟩
end
def ix (s d : Nat) : Nat := s + 256 * d
theorem ix_mod {s d : Nat} (h : s < 256) : ix s d % 256 = s := by unfold ix; omega
theorem ix_div {s d : Nat} (h : s < 256) : ix s d / 256 = d := by unfold ix; omega
theorem ix_at (i : Nat) : ix (i % 256) (i / 256) = i := by unfold ix; omega
theorem PS.raise2 {g : Nat → Bool} {fr : Bool} {k q s d : Nat} {Db Da : DataW Unit} {left : Lit → Bool} {c : Int} {E : Nat → Nat} (h : PS g fr k q Db left Da c (fun N => V g fr N (63 - k) (k + 1) s d + E N)) (hD : Maps.IsMap Da) (hq : q ≤ 63) (hs : s < 256) (hd : d < q + 2) (hv : Vd g (k + 1) s) :
  PS g fr k q Db left (Da.put (kI (ix s d)) (.lit (.int .i64 (wrap64 (vw Da (ix s d) + c))))) c E :=
 PS.raise (t := ix s d) (by rw [ix_mod hs, ix_div hs]; exact h) hD hq (by unfold ix; omega) (by rw [ix_mod hs]; exact hv)
def Ra (W : World) (m2 s d : Nat) (c : Int) (Da : DataW Unit) (st : Nat) (W1 W2 : World) (a : Int) : Prop :=
 (Instr.lookup 93 (.map (some m2)) (.agg #[.int .i64 (s : Int), .int .i64 (d : Int)]) false).run Try.prog W = .ok (.int .i64 a) W ∧
 (Instr.mapEntry 93 (.map (some m2)) (.agg #[.int .i64 (s : Int), .int .i64 (d : Int)])).run Try.prog W = .ok (.tuple #[.int .i64 a, .int .i64 (st : Int)]) W1 ∧
 (Instr.lookup 93 (.map (some m2)) (.agg #[.int .i64 (s : Int), .int .i64 (d : Int)]) false).run Try.prog W1 = .ok (.int .i64 a) W1 ∧
 W.grownBy W1 (some m2) ∧ (Instr.entryStore 93 (.map (some m2)) (.int .i64 (st : Int)) (.int .i64 (IntKind.i64.wrap (a + c)))).run Try.prog W1 = .ok () W2 ∧
 W.grownBy W2 (some m2) ∧ W2.ownsMap Try.prog 96 RE m2 20001 (Da.put (kI (ix s d)) (.lit (.int .i64 (wrap64 (vw Da (ix s d) + c)))))
theorem ra_of {W : World} {m2 s d : Nat} {c : Int} {Da : DataW Unit} (h : Own W m2 Da) (hs : s < 256) (hd : d < 70) : ∃ st W1 W2 a, Ra W m2 s d c Da st W1 W2 a := by
 have hk := keyI (i := ix s d) (by unfold ix; omega)
 rw [ix_mod hs, ix_div hs] at hk
 obtain ⟨st, W1, h1, h2, h3, h4, h5, _, h6⟩ := own_raise h hk
 obtain ⟨W2, h7, h8, h9, _⟩ := h6 (wrap64 (vw Da (ix s d) + c)) (wrap64_wf _)
 refine ⟨st, W1, W2, _, h2, h3, h4, h5, ?_, h9, h8⟩
 rw [wrap_is]; exact h7
theorem WP.up {w W W' W2 : World} {v : Value} {x y m m2 r p s d : Nat} {Db Da : DataW Unit} {left : Lit → Bool} {cnt : Nat} {g : Nat → Bool} {fr : Bool} {k q s' d' st : Nat} {c a : Int} {E : Nat → Nat}
  (h : WP w v x y m m2 r Db left cnt p s d Da W) (hr : Ra W m2 s' d' c Da st W' W2 a) (hp : PS g fr k q Db left Da c (fun N => V g fr N (63 - k) (k + 1) s' d' + E N)) (hq : q ≤ 63) (hs : s' < 256) (hd : d' < q + 2) (hv : Vd g (k + 1) s') :
  ∃ Da', WP w v x y m m2 r Db left cnt p s d Da' W2 ∧ PS g fr k q Db left Da' c E := by
 have hp' := hp.raise2 h.1.2.2.1.isMap hq hs hd hv
 exact ⟨_, h.raised hr.2.2.2.2.2.1 (own_bound hr.2.2.2.2.2.2 hp'.1 (by omega)), hp'⟩
end Go.Proofs.Ytjfagpmklifjlaa.Prof
