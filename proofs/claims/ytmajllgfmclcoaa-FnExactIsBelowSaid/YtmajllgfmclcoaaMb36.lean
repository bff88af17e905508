/- Aro in one text. -/
import Derived.Test.YtmajllgfmclcoaaMb35
import Derived.Test.YtmajllgfmclcoaaMb26

namespace Go.Proofs.Ytmajllgfmclcoaa.Cor
set_option linter.unusedVariables false
set_option linter.unusedSimpArgs false
set_option maxRecDepth 100000
open Go.RowKit Go.Proofs.Ytmajllgfmclcoaa.Cell Go.Proofs.Ytmajllgfmclcoaa.Dom Go.Proofs.Ytmajllgfmclcoaa.Dms Go.Proofs.Ytmajllgfmclcoaa.Til Go.Proofs.Ytmajllgfmclcoaa.Hgt Go.Joins

def arB (L : List Dm) (px py qx qy : Int) : Bool := decide (atI L (clX px py qx qy) (clY px py qx qy) ≠ atI L (clX qx qy px py) (clY qx qy px py))
set_option maxHeartbeats 2000000 in
theorem iAround (w : World) (A : Option Addr) (n cap B : Nat) (L : List Dm) (hL : L.length = n) (hn : (n : Int) ≤ 9223372036854775807) (hf : Fits L) (h : RowM w B A L) (hB : B ≤ w.heap.size) (px py qx qy : Int) (hp : 0 ≤ px ∧ px ≤ 8 ∧ 0 ≤ py ∧ py ≤ 8) (hq : 0 ≤ qx ∧ qx ≤ 8 ∧ 0 ≤ qy ∧ qy ≤ 8) :
  Calls Try.prog 68 #[.slice A n cap, .agg #[.int .i64 px, .int .i64 py], .agg #[.int .i64 qx, .int .i64 qy]] w (Bol (arB L px py qx qy) w) := by
 have HBs := Lib.hid (fun W => iBeside px py qx qy hp hq W)
 have HAt := Lib.hid (fun W (hb : Below w.heap.size w W) u v => iDominoAt W A n cap B L hL hn hf (h.below hb hB) (by have := hb.size; omega) u v)
 have HE := Lib.hid (show arB L px py qx qy = decide (atI L (clX px py qx qy) (clY px py qx qy) ≠ atI L (clX qx qy px py) (clY qx qy px py)) from rfl)
 have T0 := Lib.hid (tc_start px py qx qy w)
 clear hL hn hf h hB hp hq
 generalize arB L px py qx qy = r at HE ⊢
 generalize clX px py qx qy = m at HBs HE
 generalize clY px py qx qy = n' at HBs HE
 generalize clX qx qy px py = u at HBs HE
 generalize clY qx qy px py = v at HBs HE
 go_enter Try.func68, Try.ntmps68
 go_wp2_with fail
 refine (HBs.out _).mono ?_
 rintro e w2 ⟨rfl, hb2⟩
 have T2 := T0.out.on hb2
 clear T0 hb2
 go_upto_region 2 with fail
 obtain ⟨k1, k2, k3⟩ := at2_two w2 m n' u v
 have T3 := T2.on k3
 generalize (w2.alloc (.cells #[.int .i64 m, .int .i64 n'] 56)).alloc (.cells #[.int .i64 u, .int .i64 v] 56) = W at k1 k2 T3 ⊢
 clear T2 k3
 have B3 := T3.bel.drew
 have k1 : At2 W.drew w2.heap.size m n' := k1
 have k2 : At2 W.drew (w2.heap.size + 1) u v := k2
 clear T3
 refine wp_region_noPanic ?_
 refine wp_region_held_drew (S := (fun w' => w'.cell? ⟨w2.heap.size, 0, none⟩ = some (.int .i64 m) ∧ w'.cell? ⟨w2.heap.size, 1, none⟩ = some (.int .i64 n') ∧ w'.cell? ⟨w2.heap.size + 1, 0, none⟩ = some (.int .i64 u) ∧ w'.cell? ⟨w2.heap.size + 1, 1, none⟩ = some (.int .i64 v))) (by kernel_rfl) (⟨k1.c0, k1.c1, k2.c0, k2.c1⟩) (fun hHeld => ?_)
 generalize World.drew _ = WR at B3 k1 k2 hHeld ⊢
 refine wpAnyH_take (i := 0) (v := ?_) rfl (by kernel_rfl) (by kernel_rfl) (by kernel_rfl) (fun _ _ _ h => h) (Or.inl ⟨by rfl, ?_⟩) (by assumption) ?_
 rotate_left
 ·(intro w' hS; (try dsimp only at hS); go_simp; try with_reducible rfl)
 try simp only [Act.put, List.getElem_toArray, List.getElem_cons_succ, List.getElem_cons_zero, List.setIfInBounds_toArray, List.set_cons_zero, List.set_cons_succ]
 refine wpAnyH_take (i := 1) (v := ?_) rfl (by kernel_rfl) (by kernel_rfl) (by kernel_rfl) (fun _ _ _ h => h) (Or.inl ⟨by rfl, ?_⟩) (by assumption) ?_
 rotate_left
 ·(intro w' hS; (try dsimp only at hS); go_simp; try with_reducible rfl)
 try simp only [Act.put, List.getElem_toArray, List.getElem_cons_succ, List.getElem_cons_zero, List.setIfInBounds_toArray, List.set_cons_zero, List.set_cons_succ]
 refine wpAnyH_take (i := 3) (v := ?_) rfl (by kernel_rfl) (by kernel_rfl) (by kernel_rfl) (fun _ _ _ h => h) (Or.inl ⟨by rfl, ?_⟩) (by assumption) ?_
 rotate_left
 ·(intro w' hS; (try dsimp only at hS); go_simp; try with_reducible rfl)
 try simp only [Act.put, List.getElem_toArray, List.getElem_cons_succ, List.getElem_cons_zero, List.setIfInBounds_toArray, List.set_cons_zero, List.set_cons_succ]
 refine wpAnyH_take (i := 4) (v := ?_) rfl (by kernel_rfl) (by kernel_rfl) (by kernel_rfl) (fun _ _ _ h => h) (Or.inl ⟨by rfl, ?_⟩) (by assumption) ?_
 rotate_left
 ·(intro w' hS; (try dsimp only at hS); go_simp; try with_reducible rfl)
 try simp only [Act.put, List.getElem_toArray, List.getElem_cons_succ, List.getElem_cons_zero, List.setIfInBounds_toArray, List.set_cons_zero, List.set_cons_succ]
 refine wpAnyH_ready (rs := [2]) (by kernel_rfl) (by simp) ?_
 refine AllReadyH.cons rfl (fun K hK => ?_) AllReadyH.nil
 go_simp
 refine (HAt.out _ B3 m n').mono ?_
 rintro e wx ⟨rfl, hbx⟩
 have k1 := k1.on hbx
 have k2 := k2.on hbx
 have B3 := B3.trans (hbx.mono B3.size)
 clear hbx
 go_wp2_with fail
 refine hK.out _ _ (⟨k1.c0, k1.c1, k2.c0, k2.c1⟩) (fun hHeld => ?_)
 clear hK K
 try simp only [Act.put, List.getElem_toArray, List.getElem_cons_succ, List.getElem_cons_zero, List.setIfInBounds_toArray, List.set_cons_zero, List.set_cons_succ]
 refine wpAnyH_ready (rs := [5]) (by kernel_rfl) (by simp) ?_
 refine AllReadyH.cons rfl (fun K hK => ?_) AllReadyH.nil
 go_simp
 refine (HAt.out _ B3 u v).mono ?_
 rintro e wx ⟨rfl, hbx⟩
 have k1 := k1.on hbx
 have k2 := k2.on hbx
 have B3 := B3.trans (hbx.mono B3.size)
 generalize atI L m n' = a at HE ⊢
 generalize atI L u v = b at HE ⊢
 obtain ⟨pq, hpq⟩ : ∃ pq, (a != b) = pq := ⟨_, rfl⟩
 have HPq := Lib.hid (show pq = r by rw [HE.out, ← hpq]; by_cases q : a = b <;> simp [q])
 clear hbx HE
 go_wp2_with fail
 refine hK.out _ _ (⟨k1.c0, k1.c1, k2.c0, k2.c1⟩) (fun hHeld => ?_)
 clear hK K
 try simp only [Act.put, List.getElem_toArray, List.getElem_cons_succ, List.getElem_cons_zero, List.setIfInBounds_toArray, List.set_cons_zero, List.set_cons_succ]
 refine wpAnyH_take (i := 6) (v := ?_) rfl (by kernel_rfl) (by kernel_rfl) (by kernel_rfl) (fun _ _ _ h => h) (Or.inl ⟨by rfl, ?_⟩) (by assumption) ?_
 rotate_left
 ·(intro w' hS; (try dsimp only at hS); go_simp; try with_reducible rfl)
 try simp only [Act.put, List.getElem_toArray, List.getElem_cons_succ, List.getElem_cons_zero, List.setIfInBounds_toArray, List.set_cons_zero, List.set_cons_succ]
 refine wpAnyH_take (i := 7) (v := ?_) rfl (by kernel_rfl) (by kernel_rfl) (by kernel_rfl) (fun _ _ _ h => h) (Or.inl ⟨by rfl, ?_⟩) (by assumption) ?_
 rotate_left
 ·(intro w' hS; (try dsimp only at hS); go_simp; try with_reducible rfl)
 try simp only [Act.put, List.getElem_toArray, List.getElem_cons_succ, List.getElem_cons_zero, List.setIfInBounds_toArray, List.set_cons_zero, List.set_cons_succ]
 refine wpAnyH_done (by kernel_rfl) ?_ _
 refine NoPanic.normal ?_
 clear hHeld k1 k2
 go_wp2
 go_ret
 exact mkBol HPq.out B3
end Go.Proofs.Ytmajllgfmclcoaa.Cor
