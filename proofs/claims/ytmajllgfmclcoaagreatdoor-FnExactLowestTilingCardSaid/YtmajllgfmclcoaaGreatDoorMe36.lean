/- Aro, Spr, Iss in one text. -/
import Derived.Test.YtmajllgfmclcoaaGreatDoorMe35
import Derived.Test.YtmajllgfmclcoaaGreatDoorMe22
import Derived.Test.YtmajllgfmclcoaaGreatDoorMe10
import Derived.StillTailTactics
import Derived.Test.YtmajllgfmclcoaaGreatDoorMe00

namespace Go.Proofs.YtmajllgfmclcoaaGreatDoor.Cor
set_option linter.unusedVariables false
set_option linter.unusedSimpArgs false
set_option maxRecDepth 100000
open Go.RowKit Go.Proofs.YtmajllgfmclcoaaGreatDoor.Cell Go.Proofs.YtmajllgfmclcoaaGreatDoor.Dom Go.Proofs.YtmajllgfmclcoaaGreatDoor.Dms Go.Proofs.YtmajllgfmclcoaaGreatDoor.Til Go.Proofs.YtmajllgfmclcoaaGreatDoor.Hgt Go.Joins

def arB (L : List Dm) (px py qx qy : Int) : Bool := decide (atI L (clX px py qx qy) (clY px py qx qy) ≠ atI L (clX qx qy px py) (clY qx qy px py))
set_option maxHeartbeats 2000000 in
theorem iAround (w : World) (A : Option Addr) (n cap B : Nat) (L : List Dm) (hL : L.length = n) (hn : (n : Int) ≤ 9223372036854775807) (hf : Fits L) (h : RowM w B A L) (hB : B ≤ w.heap.size) (px py qx qy : Int) (hp : 0 ≤ px ∧ px ≤ 8 ∧ 0 ≤ py ∧ py ≤ 8) (hq : 0 ≤ qx ∧ qx ≤ 8 ∧ 0 ≤ qy ∧ qy ≤ 8) :
  Calls Tryz.prog 119 #[.slice A n cap, .agg #[.int .i64 px, .int .i64 py], .agg #[.int .i64 qx, .int .i64 qy]] w (Bol (arB L px py qx qy) w) := by
 have HBs := Lib.hid (fun W => iBeside px py qx qy hp hq W)
 have HAt := Lib.hid (fun W (hb : Below w.heap.size w W) u v => iDominoAt W A n cap B L hL hn hf (h.below hb hB) (by have := hb.size; omega) u v)
 have HE := Lib.hid (show arB L px py qx qy = decide (atI L (clX px py qx qy) (clY px py qx qy) ≠ atI L (clX qx qy px py) (clY qx qy px py)) from rfl)
 have T0 := Lib.hid (tc_start px py qx qy w)
 clear hL hn hf h hB hp hq
 generalize arB L px py qx qy = r at HE ⊢
 generalize clX px py qx qy = m at HBs HE
 generalize clY px py qx qy = n' at HBs HE
 generalize clX qx qy px py = u at HBs HE
 generalize clY qx qy px py = v at HBs HE
 go_enter Tryz.func119, Tryz.ntmps119
 go_wp2_with fail
 refine (HBs.out _).mono ?_
 rintro e w2 ⟨rfl, hb2⟩
 have T2 := T0.out.on hb2
 clear T0 hb2
 go_upto_region 2 with fail
 obtain ⟨k1, k2, k3⟩ := at2_two w2 m n' u v
 have T3 := T2.on k3
 generalize (w2.alloc (.cells #[.int .i64 m, .int .i64 n'] 79)).alloc (.cells #[.int .i64 u, .int .i64 v] 79) = W at k1 k2 T3 ⊢
 clear T2 k3
 have B3 := T3.bel.drew
 have k1 : At2 W.drew w2.heap.size m n' := k1
 have k2 : At2 W.drew (w2.heap.size + 1) u v := k2
 clear T3
 refine wp_region_noPanic ?_
 refine wp_region_held_drew (S := (fun w' => w'.cell? ⟨w2.heap.size, 0, none⟩ = some (.int .i64 m) ∧ w'.cell? ⟨w2.heap.size, 1, none⟩ = some (.int .i64 n') ∧ w'.cell? ⟨w2.heap.size + 1, 0, none⟩ = some (.int .i64 u) ∧ w'.cell? ⟨w2.heap.size + 1, 1, none⟩ = some (.int .i64 v))) (by kernel_rfl) (⟨k1.c0, k1.c1, k2.c0, k2.c1⟩) (fun hHeld => ?_)
 generalize World.drew _ = WR at B3 k1 k2 hHeld ⊢
 refine wpAnyH_take (i := 0) (v := ?_) rfl (by kernel_rfl) (by kernel_rfl) (by kernel_rfl) (fun _ _ _ h => h) (Or.inl ⟨by rfl, ?_⟩) (by assumption) ?_
 rotate_left
 ·(intro w' hS; (try dsimp only at hS); go_simp; try with_reducible rfl)
 try simp only [Act.put, List.getElem_toArray, List.getElem_cons_succ, List.getElem_cons_zero, List.setIfInBounds_toArray, List.set_cons_zero, List.set_cons_succ]
 refine wpAnyH_take (i := 1) (v := ?_) rfl (by kernel_rfl) (by kernel_rfl) (by kernel_rfl) (fun _ _ _ h => h) (Or.inl ⟨by rfl, ?_⟩) (by assumption) ?_
 rotate_left
 ·(intro w' hS; (try dsimp only at hS); go_simp; try with_reducible rfl)
 try simp only [Act.put, List.getElem_toArray, List.getElem_cons_succ, List.getElem_cons_zero, List.setIfInBounds_toArray, List.set_cons_zero, List.set_cons_succ]
 refine wpAnyH_take (i := 3) (v := ?_) rfl (by kernel_rfl) (by kernel_rfl) (by kernel_rfl) (fun _ _ _ h => h) (Or.inl ⟨by rfl, ?_⟩) (by assumption) ?_
 rotate_left
 ·(intro w' hS; (try dsimp only at hS); go_simp; try with_reducible rfl)
 try simp only [Act.put, List.getElem_toArray, List.getElem_cons_succ, List.getElem_cons_zero, List.setIfInBounds_toArray, List.set_cons_zero, List.set_cons_succ]
 refine wpAnyH_take (i := 4) (v := ?_) rfl (by kernel_rfl) (by kernel_rfl) (by kernel_rfl) (fun _ _ _ h => h) (Or.inl ⟨by rfl, ?_⟩) (by assumption) ?_
 rotate_left
 ·(intro w' hS; (try dsimp only at hS); go_simp; try with_reducible rfl)
 try simp only [Act.put, List.getElem_toArray, List.getElem_cons_succ, List.getElem_cons_zero, List.setIfInBounds_toArray, List.set_cons_zero, List.set_cons_succ]
 refine wpAnyH_ready (rs := [2]) (by kernel_rfl) (by simp) ?_
 refine AllReadyH.cons rfl (fun K hK => ?_) AllReadyH.nil
 go_simp
 refine (HAt.out _ B3 m n').mono ?_
 rintro e wx ⟨rfl, hbx⟩
 have k1 := k1.on hbx
 have k2 := k2.on hbx
 have B3 := B3.trans (hbx.mono B3.size)
 clear hbx
 go_wp2_with fail
 refine hK.out _ _ (⟨k1.c0, k1.c1, k2.c0, k2.c1⟩) (fun hHeld => ?_)
 clear hK K
 try simp only [Act.put, List.getElem_toArray, List.getElem_cons_succ, List.getElem_cons_zero, List.setIfInBounds_toArray, List.set_cons_zero, List.set_cons_succ]
 refine wpAnyH_ready (rs := [5]) (by kernel_rfl) (by simp) ?_
 refine AllReadyH.cons rfl (fun K hK => ?_) AllReadyH.nil
 go_simp
 refine (HAt.out _ B3 u v).mono ?_
 rintro e wx ⟨rfl, hbx⟩
 have k1 := k1.on hbx
 have k2 := k2.on hbx
 have B3 := B3.trans (hbx.mono B3.size)
 generalize atI L m n' = a at HE ⊢
 generalize atI L u v = b at HE ⊢
 obtain ⟨pq, hpq⟩ : ∃ pq, (a != b) = pq := ⟨_, rfl⟩
 have HPq := Lib.hid (show pq = r by rw [HE.out, ← hpq]; by_cases q : a = b <;> simp [q])
 clear hbx HE
 go_wp2_with fail
 refine hK.out _ _ (⟨k1.c0, k1.c1, k2.c0, k2.c1⟩) (fun hHeld => ?_)
 clear hK K
 try simp only [Act.put, List.getElem_toArray, List.getElem_cons_succ, List.getElem_cons_zero, List.setIfInBounds_toArray, List.set_cons_zero, List.set_cons_succ]
 refine wpAnyH_take (i := 6) (v := ?_) rfl (by kernel_rfl) (by kernel_rfl) (by kernel_rfl) (fun _ _ _ h => h) (Or.inl ⟨by rfl, ?_⟩) (by assumption) ?_
 rotate_left
 ·(intro w' hS; (try dsimp only at hS); go_simp; try with_reducible rfl)
 try simp only [Act.put, List.getElem_toArray, List.getElem_cons_succ, List.getElem_cons_zero, List.setIfInBounds_toArray, List.set_cons_zero, List.set_cons_succ]
 refine wpAnyH_take (i := 7) (v := ?_) rfl (by kernel_rfl) (by kernel_rfl) (by kernel_rfl) (fun _ _ _ h => h) (Or.inl ⟨by rfl, ?_⟩) (by assumption) ?_
 rotate_left
 ·(intro w' hS; (try dsimp only at hS); go_simp; try with_reducible rfl)
 try simp only [Act.put, List.getElem_toArray, List.getElem_cons_succ, List.getElem_cons_zero, List.setIfInBounds_toArray, List.set_cons_zero, List.set_cons_succ]
 refine wpAnyH_done (by kernel_rfl) ?_ _
 refine NoPanic.normal ?_
 clear hHeld k1 k2
 go_wp2
 go_ret
 exact mkBol HPq.out B3
end Go.Proofs.YtmajllgfmclcoaaGreatDoor.Cor

namespace Go.Proofs.YtmajllgfmclcoaaGreatDoor.Cor
set_option linter.unusedVariables false
set_option linter.unusedSimpArgs false
set_option maxRecDepth 100000
open Go.RowKit Go.Proofs.YtmajllgfmclcoaaGreatDoor.Base Go.Proofs.YtmajllgfmclcoaaGreatDoor.Cell Go.Proofs.YtmajllgfmclcoaaGreatDoor.Dms Go.Proofs.YtmajllgfmclcoaaGreatDoor.Til Go.Proofs.YtmajllgfmclcoaaGreatDoor.Hgt Go.Joins
open Go.Proofs.YtmajllgfmclcoaaGreatDoor.Cels (rowC RowC rowC_own rowC_at)
open Go.Proofs.YtmajllgfmclcoaaGreatDoor.Reg (ints RowIn rowIn_new Apart apart_of_below)

def Hw (W : World) (b : Nat) (h : List Int) : Prop := W.heap[b]? = some (.cells (ints h).toArray 3 (0, 0))
theorem ints_at {h : List Int} {v : Nat} {x : Int} (e : h[v]? = some x) : (ints h)[v]? = some (.int .i64 x) := by unfold ints; rw [List.getElem?_map, e]; rfl
section
variable {W W' : World} {b : Nat} {h : List Int}
theorem Hw.lt (k : Hw W b h) : b < W.heap.size := (Array.getElem?_eq_some_iff.1 k).1
theorem Hw.cell (k : Hw W b h) {v : Nat} {x : Int} (e : h[v]? = some x) : W.cell? ⟨b, v, none⟩ = some (.int .i64 x) := by
 rw [cell_of_block k v]
 have := ints_at e
 simpa using this
theorem Hw.frozen (k : Hw W b h) (v : Nat) : W.frozen? ⟨b, v, none⟩ = false := unfrozen_of_block k v
theorem Hw.set (k : Hw W b h) {v : Nat} (hv : v < h.length) (x : Int) : Hw (W.setCell ⟨b, v, none⟩ (.int .i64 x)) b (h.set v x) := by
 have e := block_setCell k (i := v) (v := .int .i64 x)
 refine Eq.trans e ?_
 congr 2
 simp [ints, List.map_set]
theorem Hw.on (k : Hw W b h) (hb : Below W.heap.size W W') : Hw W' b h := (hb.block b k.lt).trans k
theorem Hw.drew (k : Hw W b h) : Hw W.drew b h := k
end
structure Sp (w : World) (b : Nat) (x y : Int) (W : World) : Prop where
 ap : Apart b (b + 1) w W
 k1 : AtC W w.heap.size x y
section
variable {w W W' : World} {b : Nat} {x y : Int}
theorem Sp.drew (s : Sp w b x y W) : Sp w b x y W.drew := ⟨s.ap.trans (apart_of_below (Below.refl _ _).drew _ _), s.k1⟩
theorem AtC.apart {q : Nat} {u v : Int} (k : AtC W q u v) (ha : Apart b (b + 1) W W') (hq : b ≠ q) : AtC W' q u v := (ha.block q k.lt (by omega)).trans k
theorem Sp.apart (s : Sp w b x y W) (hb : b < w.heap.size) (ha : Apart b (b + 1) W W') : Sp w b x y W' := ⟨s.ap.trans ha, s.k1.apart ha (by omega)⟩
theorem Sp.on (s : Sp w b x y W) (hb : b < w.heap.size) (hw : Below W.heap.size W W') : Sp w b x y W' := s.apart hb (apart_of_below hw _ _)
end
theorem way {xs : List Int} {L : List Dm} {F : Nat → Int} {h h' : List Int} {v k : Nat} {c : Int × Int} {x y : Int} (ht : tilB xs L = true) (hF : ∀ d v w, Lk xs (xL L) (yL L) d v w → F w = F v + es d v) (hv : v < 81) (ex : x = ((v % 9 : Nat) : Int)) (ey : y = ((v / 9 : Nat) : Int))
  (hk : (endsP x y)[k]? = some c) (s : Mi xs (xL L) (yL L) F h h' v (((endsP x y).take k).map pl9)) :
  ∃ (z hp : Int) (wi : Nat), h'[wi]? = some z ∧ h'[v]? = some hp ∧ wi < 81 ∧ (wi : Int) = c.2 * 9 + c.1 ∧ (0 ≤ c.1 ∧ c.1 ≤ 8 ∧ 0 ≤ c.2 ∧ c.2 ≤ 8) ∧ c.1 = ((wi % 9 : Nat) : Int) ∧ c.2 = ((wi / 9 : Nat) : Int) ∧ wi < h'.length ∧ (-100 ≤ hp ∧ hp ≤ 100) ∧
   (z ≠ -1000 → Mi xs (xL L) (yL L) F h h' v (((endsP x y).take (k + 1)).map pl9)) ∧
   (z = -1000 → arB L x y c.1 c.2 = false → Mi xs (xL L) (yL L) F h h' v (((endsP x y).take (k + 1)).map pl9)) ∧
   (z = -1000 → arB L x y c.1 c.2 = true → wrap64 (hp + stepE x y c.1 c.2) = F wi ∧ Hs xs F (h'.set wi (F wi)) ∧ St (h'.set wi (F wi)) wi ∧ unH (h'.set wi (F wi)) < unH h ∧
    ∀ h2, Sx xs (xL L) (yL L) F (h'.set wi (F wi)) h2 wi → Mi xs (xL L) (yL L) F h h2 v (((endsP x y).take (k + 1)).map pl9)) := by
 obtain ⟨hkl, hke⟩ := List.getElem?_eq_some_iff.1 hk
 have hm : c ∈ endsP x y := hke ▸ List.getElem_mem hkl
 obtain ⟨w81, wi, d, l1, l2, l3⟩ := end_link ht hv ex ey hm
 obtain ⟨hin, _⟩ := ends_dir hm
 have htk : ((endsP x y).take (k + 1)).map pl9 = ((endsP x y).take k).map pl9 ++ [pl9 c] := by
  rw [List.take_succ_eq_append_getElem hkl, List.map_append, hke]; rfl
 obtain ⟨z, hz, zb, z1, z2⟩ := s.hs.at w81
 obtain ⟨hp, hhp, hpb, hp1, hp2⟩ := s.hs.at hv
 have hpF := hp2 s.here
 have hpb2 : -100 ≤ hp ∧ hp ≤ 100 := by
  rcases s.hs.val v hp hhp with r | ⟨_, _, r1, r2⟩
  ·exact absurd s.here (hp1.1 r)
  ·omega
 rw [htk]
 have a1 : arB L x y c.1 c.2 = true → Lk xs (xL L) (yL L) d v (pl9 c) := fun h => l2 (of_decide_eq_true h)
 refine ⟨z, hp, pl9 c, hz, hhp, w81, wi, by omega, by unfold pl9; omega, by unfold pl9; omega, by rw [s.hs.len]; exact w81, hpb2, fun hne => ?_, fun he har => ?_, fun he har => ?_⟩
 ·exact s.skip (fun _ _ => by
   refine Classical.byContradiction fun q => hne (z1.2 q))
 ·refine s.skip (fun d' hl => ?_)
  have := l1 d' hl
  rw [arB, decide_eq_false_iff_not] at har
  exact absurd this har
 ·have hl := a1 har
  have hF' := hF d v (pl9 c) hl
  rw [he] at hz
  have hes := es_or d v
  have hne : F (pl9 c) ≠ -1000 := by rcases hes with e | e <;> omega
  refine ⟨?_, s.hs.put hF s.here hl hz, (st_put (by rw [s.hs.len]; exact w81) hne).2 (.inl rfl), ?_, fun h2 hs2 => s.call hF hl hz hs2⟩
  ·rw [l3, hF', hpF]
   unfold wrap64
   rcases hes with e | e <;> rw [e] <;> omega
  ·have := un_set hz hne
   have := s.un
   omega
def SprP (xs : List Int) (L : List Dm) (F : Nat → Int) (h : List Int) (v b : Nat) (w : World) (e : Ending) (w' : World) : Prop :=
 e = .returned (.tuple #[]) ∧ ∃ h', Sx xs (xL L) (yL L) F h h' v ∧ Hw w' b h' ∧ Apart b (b + 1) w w'
theorem iIndexN (v : Nat) (hv : v < 81) {x y : Int} (ex : x = ((v % 9 : Nat) : Int)) (ey : y = ((v / 9 : Nat) : Int)) (w : World) :
  Calls Tryz.prog 83 #[.agg #[.int .i64 x, .int .i64 y]] w (Num (v : Int) w) := by
 have := iIndex x y (by omega) w
 rwa [show y * 9 + x = (v : Int) by omega] at this
set_option maxHeartbeats 8000000 in
theorem spread_body (A : Option Addr) (n cap : Nat) (xs : List Int) (L : List Dm) (hL : L.length = n) (hn : (n : Int) ≤ 9223372036854775807) (hf : Fits L) (ht : tilB xs L = true) (F : Nat → Int) (hF : ∀ d v w, Lk xs (xL L) (yL L) d v w → F w = F v + es d v) (f : Nat)
  (ih : ∀ f', f' + 1 = f → ∀ (w : World) (b v : Nat) (h : List Int) (x y : Int), unH h ≤ f' → v < 81 → Hs xs F h → St h v → Hw w b h → RowM w b A L → x = ((v % 9 : Nat) : Int) → y = ((v / 9 : Nat) : Int) →
   Calls Tryz.prog 84 #[.slice (some ⟨b, 0, none⟩) 81 81, .slice A n cap, .agg #[.int .i64 x, .int .i64 y]] w (SprP xs L F h v b w)) :
  ∀ (w : World) (b v : Nat) (h : List Int) (x y : Int), unH h ≤ f → v < 81 → Hs xs F h → St h v → Hw w b h → RowM w b A L → x = ((v % 9 : Nat) : Int) → y = ((v / 9 : Nat) : Int) →
  Calls Tryz.prog 84 #[.slice (some ⟨b, 0, none⟩) 81 81, .slice A n cap, .agg #[.int .i64 x, .int .i64 y]] w (SprP xs L F h v b w) := by
 intro w b v h x y hu hv hs hst hH hR ex ey
 have hbw := hH.lt
 have IH := Lib.hid (fun (W : World) (wi : Nat) (h2 : List Int) (x' y' : Int) (hu' : unH h2 < unH h) (h81 : wi < 81) (hs2 : Hs xs F h2) (hst2 : St h2 wi) (hH2 : Hw W b h2) (ha : Apart b (b + 1) w W) (e1 : x' = ((wi % 9 : Nat) : Int)) (e2 : y' = ((wi / 9 : Nat) : Int)) =>
  ih (f - 1) (by omega) W b wi h2 x' y' (by omega) h81 hs2 hst2 hH2 (hR.below (ha.below (Nat.le_refl _) (by omega)) (Nat.le_refl _)) e1 e2)
 have HEn := Lib.hid (fun W => iEnds x y (by omega) W)
 have HAr := Lib.hid (fun (W : World) (c : Int × Int) (ha : Apart b (b + 1) w W) (hc : 0 ≤ c.1 ∧ c.1 ≤ 8 ∧ 0 ≤ c.2 ∧ c.2 ≤ 8) => iAround W A n cap b L hL hn hf (hR.below (ha.below (Nat.le_refl _) (by omega)) (Nat.le_refl _)) (by have := ha.size; omega) x y c.1 c.2 (by omega) hc)
 have HWay := Lib.hid (fun k c h' (hk : (endsP x y)[k]? = some c) s => way (h := h) (h' := h') ht hF hv ex ey hk s)
 have HIx := Lib.hid (fun W => iIndexN v hv ex ey W)
 have HSt := Lib.hid (Mi.start (X := xL L) (Y := yL L) hs hst)
 have HFin := Lib.hid (fun h' (s : Mi xs (xL L) (yL L) F h h' v ((endsP x y).map pl9)) => s.done (fun d w' hl => by rw [ex, ey]; exact ends_all hv hl))
 have HVv := Lib.hid hv
 have HHw := Lib.hid hH
 have T0 := Lib.hid (show Sp w b x y (w.alloc (.cells #[.int .i64 x, .int .i64 y] 96)) from ⟨apart_of_below (below_alloc1 w _) _ _, AtC.new w x y⟩)
 have HBw := Lib.hid hbw
 have HEl := Lib.hid (ends_le x y)
 clear hL hn hf ht hF ih hu hv hs hst hH hR ex ey
 go_enter Tryz.func84, Tryz.ntmps84
 go_wp2_with fail
 have HH1 := Lib.hid (HHw.out.on (below_alloc1 w (.cells #[.int .i64 x, .int .i64 y] 96)))
 clear HHw
 generalize w.alloc (.cells #[.int .i64 x, .int .i64 y] 96) = W1 at T0 HH1 ⊢
 refine (HEn.out W1).mono ?_
 rintro e w2 ⟨A2, cap2, rfl, hown, hb2⟩
 have T2 := Lib.hid (T0.out.on HBw.out hb2)
 have HH2 := Lib.hid (HH1.out.on hb2)
 have HRow := Lib.hid (rowIn_new hown)
 have hlo : b < W1.heap.size := HH1.out.lt
 have hlo2 : w.heap.size < W1.heap.size := T0.out.k1.lt
 generalize W1.heap.size = lo at HRow hlo hlo2
 generalize w2.heap.size = hi at HRow
 clear hown hb2 T0 HH1 HEn
 have HEk := Lib.hid (fun k (hk : k < (endsP x y).length) => show ∃ c, (endsP x y)[k]? = some c from ⟨_, List.getElem?_eq_getElem hk⟩)
 have HEe := Lib.hid (show (endsP x y).take (endsP x y).length = endsP x y from List.take_length)
 have HSt := Lib.hid (show Mi xs (xL L) (yL L) F h h v (((endsP x y).take 0).map pl9) from HSt.out)
 generalize endsP x y = E at HWay HFin HEl HRow HEk HEe HSt ⊢
 obtain ⟨m, hmL⟩ : ∃ m, m = E.length := ⟨_, rfl⟩
 rw [← hmL] at HEl HEk HEe HRow ⊢
 have hm4 := HEl.out
 clear hmL hbw
 go_wp2_with fail
 go_loopw [11] (fun i wr => ∃ (k : Nat) (h' : List Int), k ≤ m ∧ i = .int .i64 k ∧ Hid (Mi xs (xL L) (yL L) F h h' v ((E.take k).map pl9)) ∧ Hid (Hw wr b h') ∧ Hid (Sp w b x y wr) ∧ Hid (RowIn wr lo hi 96 2 (.slice A2 m cap2) m (rowC E))) (fun i _ => m - (intOf i).toNat)
 case atStart => exact ⟨0, h, Nat.zero_le _, rfl, HSt, HH2, T2, HRow⟩
 case round =>
  clear HSt HH2 T2 HRow
  obtain ⟨k, h', hk, rfl, HMid, HMk, HT, HRow⟩ := hrel
  by_cases hlt : k < m
  ·obtain ⟨c, hc⟩ := HEk.out k hlt
   obtain ⟨q, cc, hv1, hq1, hq2⟩ := HRow.out.1.form (by omega)
   injection hv1 with hA2 hm2 hcp2
   subst hA2
   subst hcp2
   obtain ⟨hr1, hr2⟩ := rowC_at E k c hc
   have hc0 := HRow.out.1.cells (g := q) rfl _ _ hr1
   have hc1 := HRow.out.1.cells (g := q) rfl _ _ hr2
   rw [Base.add_plain] at hc0 hc1
   obtain ⟨z, hp, wi, g1, g2, g3, g4, g5, g6, g7, g8, g9, p1, p2, p3⟩ := HWay.out k c h' hc HMid.out
   have HArc := Lib.hid (fun W ha => HAr.out W c ha g5)
   have HIxc := Lib.hid (fun W => iIndexN wi g3 g6 g7 W)
   have HEdc := Lib.hid (fun W => iEdge x y c.1 c.2 W)
   have HG := Lib.hid (And.intro g3 (And.intro g6 (And.intro g7 g8)))
   have HP1 := Lib.hid p1
   have HP2 := Lib.hid p2
   have HP3 := Lib.hid p3
   have HZ := Lib.hid g1
   have HHp := Lib.hid g2
   have HBd := Lib.hid g9
   have hwiI : (wi : Int) < 81 := by omega
   clear p1 p2 p3 hr1 hr2 HMid g1 g2 g4 g5 g6 g7 g8 g9 hc
   obtain ⟨cx, cy⟩ := c
   simp only at hc0 hc1 HArc HIxc HEdc HP2 HP3 HG
   generalize arB L x y cx cy = ar at HArc HP2 HP3
   generalize stepE x y cx cy = st at HEdc HP3
   go_upto_region 4 with fail
   have hB3 := below_alloc1 wr (.cells #[.int .i64 cx, .int .i64 cy] 96)
   have KN := AtC.new wr cx cy
   have HM3 := HMk.out.on hB3
   have HT3 := HT.out.on HBw.out hB3
   have HR3 := Lib.hid (HRow.out.on hB3)
   have hbq : b < wr.heap.size := HMk.out.lt
   have hwq : w.heap.size < wr.heap.size := HT.out.k1.lt
   generalize wr.alloc (.cells #[.int .i64 cx, .int .i64 cy] 96) = W3 at KN HM3 HT3 HR3 ⊢
   generalize wr.heap.size = bq at KN hbq hwq ⊢
   clear hB3 HMk HT HRow hc0 hc1
   have n0 := KN.c0
   have n1 := KN.c1
   go_wp2_with fail
   refine (HIxc.out _).mono ?_
   rintro e w4 ⟨rfl, hb4⟩
   have KN := KN.on hb4
   have HM3 := HM3.on hb4
   have HT3 := HT3.on HBw.out hb4
   have HR3 := Lib.hid (HR3.out.on hb4)
   clear hb4 n0 n1
   have n0 := KN.c0
   have n1 := KN.c1
   have m0 := HT3.k1.c0
   have m1 := HT3.k1.c1
   have hz := HM3.cell HZ.out
   by_cases hze : z = -1000
   ·subst hze
    have hze : ((-1000 : Int) == -1000) = true := rfl
    go_wp2_with fail
    refine (HArc.out _ HT3.ap).mono ?_
    rintro e w5 ⟨rfl, hb5⟩
    have KN := KN.on hb5
    have HM3 := HM3.on hb5
    have HT3 := HT3.on HBw.out hb5
    have HR3 := Lib.hid (HR3.out.on hb5)
    clear hb5 n0 n1 m0 m1 hz
    cases ar with
    | false =>
     have HNx := Lib.hid (HP2.out (by trivial) (by first | rfl | trivial))
     have HM5 := Lib.hid HM3
     have HT5 := Lib.hid HT3
     clear HP1 HP2 HP3 KN HM3 HT3 hze HZ HHp
     go_wp2
     go_roundw
     case rel => exact ⟨k + 1, h', by omega, by go_num, HNx, HM5, HT5, HR3⟩
     case measure => (simp [intOf] <;> omega)
    | true =>
     obtain ⟨q1, q2, q3, q4, q5⟩ := HP3.out (by trivial) (by first | rfl | trivial)
     have HQ := Lib.hid (And.intro q2 (And.intro q3 (And.intro q4 q5)))
     clear HP1 HP2 HP3 hze q2 q3 q4 q5
     go_upto_region 5 with fail
     have KN := KN.drew
     have HM3 := HM3.drew
     have HT3 := HT3.drew
     have HR3 := Lib.hid HR3.out.drew
     refine wp_region_noPanic ?_
     refine wp_region_held_drew (S := (fun w' => w'.cell? ⟨bq, 0, none⟩ = some (.int .i64 cx) ∧ w'.cell? ⟨bq, 1, none⟩ = some (.int .i64 cy) ∧ w'.cell? ⟨w.heap.size, 0, none⟩ = some (.int .i64 x) ∧ w'.cell? ⟨w.heap.size, 1, none⟩ = some (.int .i64 y) ∧ w'.cell? ⟨b, v, none⟩ = some (.int .i64 hp))) (by kernel_rfl) (⟨KN.c0, KN.c1, HT3.k1.c0, HT3.k1.c1, HM3.cell HHp.out⟩) (fun hHeld => ?_)
     generalize World.drew _ = WR at KN HM3 HT3 HR3 hHeld ⊢
     have hvI : (v : Int) < 81 := by have := HVv.out; omega
     refine wpAnyH_take (i := 0) (v := ?_) rfl (by kernel_rfl) (by kernel_rfl) (by kernel_rfl) (fun _ _ _ h => h) (Or.inl ⟨by rfl, ?_⟩) (by assumption) ?_
     rotate_left
     ·(intro w' hS; (try dsimp only at hS); go_simp; try with_reducible rfl)
     try simp only [Act.put, List.getElem_toArray, List.getElem_cons_succ, List.getElem_cons_zero, List.setIfInBounds_toArray, List.set_cons_zero, List.set_cons_succ]
     refine wpAnyH_take (i := 1) (v := ?_) rfl (by kernel_rfl) (by kernel_rfl) (by kernel_rfl) (fun _ _ _ h => h) (Or.inl ⟨by rfl, ?_⟩) (by assumption) ?_
     rotate_left
     ·(intro w' hS; (try dsimp only at hS); go_simp; try with_reducible rfl)
     try simp only [Act.put, List.getElem_toArray, List.getElem_cons_succ, List.getElem_cons_zero, List.setIfInBounds_toArray, List.set_cons_zero, List.set_cons_succ]
     refine wpAnyH_take (i := 3) (v := ?_) rfl (by kernel_rfl) (by kernel_rfl) (by kernel_rfl) (fun _ _ _ h => h) (Or.inl ⟨by rfl, ?_⟩) (by assumption) ?_
     rotate_left
     ·(intro w' hS; (try dsimp only at hS); go_simp; try with_reducible rfl)
     try simp only [Act.put, List.getElem_toArray, List.getElem_cons_succ, List.getElem_cons_zero, List.setIfInBounds_toArray, List.set_cons_zero, List.set_cons_succ]
     refine wpAnyH_take (i := 4) (v := ?_) rfl (by kernel_rfl) (by kernel_rfl) (by kernel_rfl) (fun _ _ _ h => h) (Or.inl ⟨by rfl, ?_⟩) (by assumption) ?_
     rotate_left
     ·(intro w' hS; (try dsimp only at hS); go_simp; try with_reducible rfl)
     try simp only [Act.put, List.getElem_toArray, List.getElem_cons_succ, List.getElem_cons_zero, List.setIfInBounds_toArray, List.set_cons_zero, List.set_cons_succ]
     refine wpAnyH_take (i := 8) (v := ?_) rfl (by kernel_rfl) (by kernel_rfl) (by kernel_rfl) (fun _ _ _ h => h) (Or.inl ⟨by rfl, ?_⟩) (by assumption) ?_
     rotate_left
     ·(intro w' hS; (try dsimp only at hS); go_simp; try with_reducible rfl)
     try simp only [Act.put, List.getElem_toArray, List.getElem_cons_succ, List.getElem_cons_zero, List.setIfInBounds_toArray, List.set_cons_zero, List.set_cons_succ]
     refine wpAnyH_take (i := 9) (v := ?_) rfl (by kernel_rfl) (by kernel_rfl) (by kernel_rfl) (fun _ _ _ h => h) (Or.inl ⟨by rfl, ?_⟩) (by assumption) ?_
     rotate_left
     ·(intro w' hS; (try dsimp only at hS); go_simp; try with_reducible rfl)
     try simp only [Act.put, List.getElem_toArray, List.getElem_cons_succ, List.getElem_cons_zero, List.setIfInBounds_toArray, List.set_cons_zero, List.set_cons_succ]
     refine wpAnyH_take (i := 10) (v := ?_) rfl (by kernel_rfl) (by kernel_rfl) (by kernel_rfl) (fun _ _ _ h => h) (Or.inl ⟨by rfl, ?_⟩) (by assumption) ?_
     rotate_left
     ·(intro w' hS; (try dsimp only at hS); go_simp; try with_reducible rfl)
     try simp only [Act.put, List.getElem_toArray, List.getElem_cons_succ, List.getElem_cons_zero, List.setIfInBounds_toArray, List.set_cons_zero, List.set_cons_succ]
     refine wpAnyH_take (i := 11) (v := ?_) rfl (by kernel_rfl) (by kernel_rfl) (by kernel_rfl) (fun _ _ _ h => h) (Or.inl ⟨by rfl, ?_⟩) (by assumption) ?_
     rotate_left
     ·(intro w' hS; (try dsimp only at hS); go_simp; try with_reducible rfl)
     try simp only [Act.put, List.getElem_toArray, List.getElem_cons_succ, List.getElem_cons_zero, List.setIfInBounds_toArray, List.set_cons_zero, List.set_cons_succ]
     refine wpAnyH_take (i := 12) (v := ?_) rfl (by kernel_rfl) (by kernel_rfl) (by kernel_rfl) (fun _ _ _ h => h) (Or.inl ⟨by rfl, ?_⟩) (by assumption) ?_
     rotate_left
     ·(intro w' hS; (try dsimp only at hS); go_simp; try with_reducible rfl)
     try simp only [Act.put, List.getElem_toArray, List.getElem_cons_succ, List.getElem_cons_zero, List.setIfInBounds_toArray, List.set_cons_zero, List.set_cons_succ]
     refine wpAnyH_take (i := 13) (v := ?_) rfl (by kernel_rfl) (by kernel_rfl) (by kernel_rfl) (fun _ _ _ h => h) (Or.inl ⟨by rfl, ?_⟩) (by assumption) ?_
     rotate_left
     ·(intro w' hS; (try dsimp only at hS); go_simp; try with_reducible rfl)
     try simp only [Act.put, List.getElem_toArray, List.getElem_cons_succ, List.getElem_cons_zero, List.setIfInBounds_toArray, List.set_cons_zero, List.set_cons_succ]
     refine wpAnyH_take (i := 14) (v := ?_) rfl (by kernel_rfl) (by kernel_rfl) (by kernel_rfl) (fun _ _ _ h => h) (Or.inl ⟨by rfl, ?_⟩) (by assumption) ?_
     rotate_left
     ·(intro w' hS; (try dsimp only at hS); go_simp; try with_reducible rfl)
     try simp only [Act.put, List.getElem_toArray, List.getElem_cons_succ, List.getElem_cons_zero, List.setIfInBounds_toArray, List.set_cons_zero, List.set_cons_succ]
     refine wpAnyH_take (i := 15) (v := ?_) rfl (by kernel_rfl) (by kernel_rfl) (by kernel_rfl) (fun _ _ _ h => h) (Or.inl ⟨by rfl, ?_⟩) (by assumption) ?_
     rotate_left
     ·(intro w' hS; (try dsimp only at hS); go_simp; try with_reducible rfl)
     try simp only [Act.put, List.getElem_toArray, List.getElem_cons_succ, List.getElem_cons_zero, List.setIfInBounds_toArray, List.set_cons_zero, List.set_cons_succ]
     refine wpAnyH_ready (rs := [2]) (by kernel_rfl) (by simp) ?_
     refine AllReadyH.cons rfl (fun K hK => ?_) AllReadyH.nil
     go_simp
     refine (HIxc.out _).mono ?_
     rintro e wx ⟨rfl, hbx⟩
     have KN := KN.on hbx
     have HM3 := HM3.on hbx
     have HT3 := HT3.on HBw.out hbx
     have HR3 := Lib.hid (HR3.out.on hbx)
     clear hbx
     have HS3 := And.intro KN.c0 (And.intro KN.c1 (And.intro HT3.k1.c0 (And.intro HT3.k1.c1 (HM3.cell HHp.out))))
     go_wp2_with fail
     refine hK.out _ _ (HS3) (fun hHeld => ?_)
     clear hK K
     try simp only [Act.put, List.getElem_toArray, List.getElem_cons_succ, List.getElem_cons_zero, List.setIfInBounds_toArray, List.set_cons_zero, List.set_cons_succ]
     refine wpAnyH_ready (rs := [5]) (by kernel_rfl) (by simp) ?_
     refine AllReadyH.cons rfl (fun K hK => ?_) AllReadyH.nil
     go_simp
     refine (HIx.out _).mono ?_
     rintro e wx ⟨rfl, hbx⟩
     have KN := KN.on hbx
     have HM3 := HM3.on hbx
     have HT3 := HT3.on HBw.out hbx
     have HR3 := Lib.hid (HR3.out.on hbx)
     clear hbx HS3
     have HS3 := And.intro KN.c0 (And.intro KN.c1 (And.intro HT3.k1.c0 (And.intro HT3.k1.c1 (HM3.cell HHp.out))))
     go_wp2_with fail
     refine hK.out _ _ (HS3) (fun hHeld => ?_)
     clear hK K
     try simp only [Act.put, List.getElem_toArray, List.getElem_cons_succ, List.getElem_cons_zero, List.setIfInBounds_toArray, List.set_cons_zero, List.set_cons_succ]
     refine wpAnyH_take (i := 6) (v := ?_) rfl (by kernel_rfl) (by kernel_rfl) (by kernel_rfl) (fun _ _ _ h => h) (Or.inl ⟨by rfl, ?_⟩) (by assumption) ?_
     rotate_left
     ·(intro w' hS; (try dsimp only at hS); go_simp; try with_reducible rfl)
     try simp only [Act.put, List.getElem_toArray, List.getElem_cons_succ, List.getElem_cons_zero, List.setIfInBounds_toArray, List.set_cons_zero, List.set_cons_succ]
     refine wpAnyH_take (i := 7) (v := ?_) rfl (by kernel_rfl) (by kernel_rfl) (by kernel_rfl) (fun _ _ _ h => h) (Or.inl ⟨by rfl, ?_⟩) (by assumption) ?_
     rotate_left
     ·(intro w' hS; (try dsimp only at hS); go_simp; try with_reducible rfl)
     try simp only [Act.put, List.getElem_toArray, List.getElem_cons_succ, List.getElem_cons_zero, List.setIfInBounds_toArray, List.set_cons_zero, List.set_cons_succ]
     refine wpAnyH_ready (rs := [16]) (by kernel_rfl) (by simp) ?_
     refine AllReadyH.cons rfl (fun K hK => ?_) AllReadyH.nil
     go_simp
     refine (HEdc.out _).mono ?_
     rintro e wx ⟨rfl, hbx⟩
     have KN := KN.on hbx
     have HM3 := HM3.on hbx
     have HT3 := HT3.on HBw.out hbx
     have HR3 := Lib.hid (HR3.out.on hbx)
     clear hbx HS3
     have HS3 := And.intro KN.c0 (And.intro KN.c1 (And.intro HT3.k1.c0 (And.intro HT3.k1.c1 (HM3.cell HHp.out))))
     go_wp2_with fail
     refine hK.out _ _ (HS3) (fun hHeld => ?_)
     clear hK K
     try simp only [Act.put, List.getElem_toArray, List.getElem_cons_succ, List.getElem_cons_zero, List.setIfInBounds_toArray, List.set_cons_zero, List.set_cons_succ]
     refine wpAnyH_take (i := 17) (v := ?_) rfl (by kernel_rfl) (by kernel_rfl) (by kernel_rfl) (fun _ _ _ h => h) (Or.inl ⟨by rfl, ?_⟩) (by assumption) ?_
     rotate_left
     ·(intro w' hS; (try dsimp only at hS); go_simp; try with_reducible rfl)
     try simp only [Act.put, List.getElem_toArray, List.getElem_cons_succ, List.getElem_cons_zero, List.setIfInBounds_toArray, List.set_cons_zero, List.set_cons_succ]
     refine wpAnyH_take (i := 18) (v := ?_) rfl (by kernel_rfl) (by kernel_rfl) (by kernel_rfl) (fun _ _ _ h => h) (Or.inl ⟨by rfl, ?_⟩) (by assumption) ?_
     rotate_left
     ·(intro w' hS; (try dsimp only at hS); go_simp; try with_reducible rfl)
     try simp only [Act.put, List.getElem_toArray, List.getElem_cons_succ, List.getElem_cons_zero, List.setIfInBounds_toArray, List.set_cons_zero, List.set_cons_succ]
     refine wpAnyH_ready (rs := [19]) (by kernel_rfl) (by simp) ?_
     refine AllReadyH.cons rfl (fun K hK => ?_) AllReadyH.nil
     have hz := HM3.cell HZ.out
     have hzf := HM3.frozen wi
     have hwl := HG.out.2.2.2
     have hvw : v ≠ wi := fun e => by
      have e1 := HZ.out
      rw [← e, HHp.out] at e1
      injection e1 with e1
      have := HBd.out
      omega
     have HHs := Lib.hid (show (h'.set wi (F wi))[v]? = some hp by rw [List.getElem?_set_ne (fun e => hvw e.symm)]; exact HHp.out)
     go_simp
     have q1' : IntKind.i64.wrap (hp + st) = F wi := by rw [← q1, IntKind.wrap_i64]; unfold wrap64; omega
     rw [q1']
     have hap := (Apart.refl b (b + 1) wx).setCell (p := ⟨b, wi, none⟩) (Nat.le_refl _) (Nat.lt_succ_self _) (.int .i64 (F wi))
     have HM3 := HM3.set hwl (F wi)
     have KN := KN.apart hap (by omega)
     have HT3 := HT3.apart HBw.out hap
     have HR3 := Lib.hid (HR3.out.apart hap (.inr (by omega)))
     clear HS3 hz hzf hvw hap q1 q1'
     generalize wx.setCell ⟨b, wi, none⟩ (.int .i64 (F wi)) = W6 at KN HM3 HT3 HR3 ⊢
     refine hK.out _ _ ⟨KN.c0, KN.c1, HT3.k1.c0, HT3.k1.c1, HM3.cell HHs.out⟩ (fun hHeld => ?_)
     clear hK K
     try simp only [Act.put, List.getElem_toArray, List.getElem_cons_succ, List.getElem_cons_zero, List.setIfInBounds_toArray, List.set_cons_zero, List.set_cons_succ]
     refine wpAnyH_done (by kernel_rfl) ?_ _
     refine NoPanic.normal ?_
     clear hHeld
     have n0 := KN.c0
     have n1 := KN.c1
     go_wp2_with fail
     refine (IH.out W6 wi _ cx cy HQ.out.2.2.1 HG.out.1 HQ.out.1 HQ.out.2.1 HM3 HT3.ap HG.out.2.1 HG.out.2.2.1).mono ?_
     rintro e w7 ⟨rfl, h2, hs2, hH2, ha2⟩
     have HNx := Lib.hid (HQ.out.2.2.2 h2 hs2)
     have HM5 := Lib.hid hH2
     have HT5 := Lib.hid (HT3.apart HBw.out ha2)
     have HR5 := Lib.hid (HR3.out.apart ha2 (.inr (by omega)))
     clear n0 n1 KN HM3 HT3 HR3 hs2 hH2 ha2 HQ HZ HHp HHs
     go_wp2
     go_roundw
     case rel => exact ⟨k + 1, h2, by omega, by go_num, HNx, HM5, HT5, HR5⟩
     case measure => (simp [intOf] <;> omega)
   ·have hzn : (z == -1000) = false := by rw [beq_eq_false_iff_ne]; exact hze
    have HNx := Lib.hid (HP1.out hze)
    have HM5 := Lib.hid HM3
    have HT5 := Lib.hid HT3
    clear HP1 HP2 HP3 KN HM3 HT3 hze HHp
    go_wp2
    go_roundw
    case rel => exact ⟨k + 1, h', by omega, by go_num, HNx, HM5, HT5, HR3⟩
    case measure => (simp [intOf] <;> omega)
  ·obtain rfl : k = m := by omega
   have HDone := Lib.hid (HFin.out h' (by have q := HMid.out; rwa [HEe.out] at q))
   have hA := HT.out.ap
   clear HMid
   go_wp2
   exact bodyPost_ret (v := .tuple #[]) (by simp [results, Tryz.results84, go_sem]) rfl ⟨rfl, h', HDone.out, HMk.out, hA⟩
set_option maxHeartbeats 8000000 in
theorem iSpread (A : Option Addr) (n cap : Nat) (xs : List Int) (L : List Dm) (hL : L.length = n) (hn : (n : Int) ≤ 9223372036854775807) (hf : Fits L) (ht : tilB xs L = true) (F : Nat → Int) (hF : ∀ d v w, Lk xs (xL L) (yL L) d v w → F w = F v + es d v) :
  ∀ (f : Nat) (w : World) (b v : Nat) (h : List Int) (x y : Int), unH h ≤ f → v < 81 → Hs xs F h → St h v → Hw w b h → RowM w b A L → x = ((v % 9 : Nat) : Int) → y = ((v / 9 : Nat) : Int) →
  Calls Tryz.prog 84 #[.slice (some ⟨b, 0, none⟩) 81 81, .slice A n cap, .agg #[.int .i64 x, .int .i64 y]] w (SprP xs L F h v b w) := by
 intro f
 induction f with
 | zero => exact spread_body A n cap xs L hL hn hf ht F hF 0 (fun f' hf' => by omega)
 | succ f ih =>
  exact spread_body A n cap xs L hL hn hf ht F hF (f + 1) (fun f' hf' => by
   have e : f' = f := Nat.succ.inj hf'
   subst e
   exact ih)
end Go.Proofs.YtmajllgfmclcoaaGreatDoor.Cor

namespace Go.Proofs.YtmajllgfmclcoaaGreatDoor.Wg
set_option linter.unusedVariables false
set_option linter.unusedSimpArgs false
open Go.RowKit Go.Joins
open Go.Proofs.YtmajllgfmclcoaaGreatDoor.Reg (own_below own_base)

def natV (l : List Nat) : List Value := l.map fun n : Nat => Value.int .i64 (n : Int)
theorem natV_length (l : List Nat) : (natV l).length = l.length := by unfold natV; simp
theorem natV_snoc (l : List Nat) (n : Nat) : natV (l ++ [n]) = natV l ++ [.int .i64 (n : Int)] := by unfold natV; simp
theorem natV_at {l : List Nat} {i v : Nat} (h : l[i]? = some v) : (natV l)[i]? = some (.int .i64 (v : Int)) := by unfold natV; rw [List.getElem?_map, h]; rfl
def rowF (n : Nat) (a : Nat → Int) : List Value := (List.range n).map fun i => Value.int .i64 (a i)
theorem rowF_at {n : Nat} {a : Nat → Int} {i : Nat} (h : i < n) : (rowF n a)[i]? = some (.int .i64 (a i)) := by unfold rowF; rw [List.getElem?_map, List.getElem?_range h]; rfl
def NumR (W : World) (base b n : Nat) (a : Nat → Int) : Prop := W.ownsRow base 3 1 (.slice (some ⟨b, 0, none⟩) n n) n (rowF n a)
section
variable {W W' : World} {base b n : Nat} {a : Nat → Int}
theorem NumR.lt (h : NumR W base b n a) : base ≤ b ∧ b < W.heap.size := World.ownsRow.lt h b rfl
theorem NumR.cell (h : NumR W base b n a) {i : Nat} (hi : i < n) : W.cell? ⟨b, i, none⟩ = some (.int .i64 (a i)) := (World.ownsRow.cellAt h i (by omega)).trans (rowF_at hi)
end
def RdN (w : World) (B : Nat) (A : Option Addr) (l : List Nat) : Prop := ∃ b, (0 < l.length → A = some ⟨b, 0, none⟩ ∧ b < B) ∧ ∀ (i : Nat) (hi : i < l.length), w.cell? ⟨b, i, none⟩ = some (.int .i64 ((l[i] : Nat) : Int))
theorem rdN_own {w : World} {base n cap : Nat} {A : Option Addr} {l : List Nat} (h : w.ownsRow base 3 1 (.slice A n cap) n (natV l)) : RdN w w.heap.size A l := by
 have hl : l.length = n := by have := h.1; rw [natV_length] at this; omega
 rcases h.2 with ⟨q, h0⟩ | ⟨g, cap', cur, q, hb, hg, _⟩
 ·have h00 : n = 0 := h0
  exact ⟨0, fun h1 => by omega, fun i hi => by omega⟩
 ·injection q with q1 _ q3
  subst q1; subst q3
  refine ⟨g, fun _ => ⟨rfl, (World.ownsRow.lt h g rfl).2⟩, fun i hi => ?_⟩
  exact (World.ownsRow.cellAt h i (by omega)).trans (natV_at (List.getElem?_eq_getElem hi))
end Go.Proofs.YtmajllgfmclcoaaGreatDoor.Wg
