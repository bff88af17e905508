/- Aro, Spr, WgP, Iss in one text. -/
import Derived.Test.YtmajllgfmclcoaaGreatDoorMd28
import Derived.Test.YtmajllgfmclcoaaGreatDoorMd19
import Derived.Test.YtmajllgfmclcoaaGreatDoorMd09
import Derived.StillTailTactics
import Derived.Test.YtmajllgfmclcoaaGreatDoorMd00
set_option linter.unusedVariables false
set_option linter.unusedSimpArgs false
set_option maxRecDepth 100000
namespace Go.Proofs.YtmajllgfmclcoaaGreatDoor.Cor
open Go.RowKit Go.Proofs.YtmajllgfmclcoaaGreatDoor.Cell Dom Dms Til Hgt Go.Joins
def arB (L : List Dm) (px py qx qy : Int) : Bool := decide (atI L (clX px py qx qy) (clY px py qx qy) ≠ atI L (clX qx qy px py) (clY qx qy px py))
set_option maxHeartbeats 2000000 in
theorem iAround (w : World) (A : Option Addr) (n cap B : Nat) (L : List Dm) (hL : L.length = n) (hn : (n : Int) ≤ 9223372036854775807) (hf : Fits L) (h : RowM w B A L) (hB : B ≤ w.heap.size) (px py qx qy : Int) (hp : 0 ≤ px ∧ px ≤ 8 ∧ 0 ≤ py ∧ py ≤ 8) (hq : 0 ≤ qx ∧ qx ≤ 8 ∧ 0 ≤ qy ∧ qy ≤ 8) :
  Calls Tryz.prog 119 #[.slice A n cap, .agg #[.int .i64 px, .int .i64 py], .agg #[.int .i64 qx, .int .i64 qy]] w (Bol (arB L px py qx qy) w) := by
 have HBs := Lh (fun W => iBeside px py qx qy hp hq W)
 have HAt := Lh (fun W (hb : Below w.heap.size w W) u v => iDominoAt W A n cap B L hL hn hf (h.below hb hB) (by have := hb.size; omega) u v)
 have HE := Lh (show arB L px py qx qy = decide (atI L (clX px py qx qy) (clY px py qx qy) ≠ atI L (clX qx qy px py) (clY qx qy px py)) from rfl)
 have T0 := Lh (tc_start px py qx qy w)
 clear hL hn hf h hB hp hq
 generalize arB L px py qx qy = r at HE ⊢
 generalize clX px py qx qy = m at HBs HE
 generalize clY px py qx qy = n' at HBs HE
 generalize clX qx qy px py = u at HBs HE
 generalize clY qx qy px py = v at HBs HE
 go_enter Tryz.func119, Tryz.ntmps119
 go_wp2_with fail
 refine (HBs.out _).mono ?_
 rintro e w2 ⟨rfl, hb2⟩
 have T2 := T0.out.on hb2
 clear T0 hb2
 go_upto_region 2 with fail
 obtain ⟨k1, k2, k3⟩ := at2_two w2 m n' u v
 have T3 := T2.on k3
 generalize (w2.alloc (.cells #[.int .i64 m, .int .i64 n'] 79)).alloc (.cells #[.int .i64 u, .int .i64 v] 79) = W at k1 k2 T3 ⊢
 clear T2 k3
 have B3 := T3.bel.drew
 have k1 : At2 W.drew w2.heap.size m n' := k1
 have k2 : At2 W.drew (w2.heap.size + 1) u v := k2
 clear T3
 refine wp_region_noPanic ?_
 refine wp_region_held_drew (S := (fun w' => w'.cell? ⟨w2.heap.size, 0, none⟩ = some (.int .i64 m) ∧ w'.cell? ⟨w2.heap.size, 1, none⟩ = some (.int .i64 n') ∧ w'.cell? ⟨w2.heap.size + 1, 0, none⟩ = some (.int .i64 u) ∧ w'.cell? ⟨w2.heap.size + 1, 1, none⟩ = some (.int .i64 v))) (by kernel_rfl) (⟨k1.c0, k1.c1, k2.c0, k2.c1⟩) (fun hHeld => ?_)
 generalize World.drew _ = WR at B3 k1 k2 hHeld ⊢
 refine tk 0 ?_; try simp only [Act.put, zk]
 refine tk 1 ?_; try simp only [Act.put, zk]
 refine tk 3 ?_; try simp only [Act.put, zk]
 refine tk 4 ?_; try simp only [Act.put, zk]
 refine tr 2 fun K hK => ?_
 go_simp
 refine (HAt.out _ B3 m n').mono ?_
 rintro e wx ⟨rfl, hbx⟩
 have k1 := k1.on hbx
 have k2 := k2.on hbx
 have B3 := B3.trans (hbx.mono B3.size)
 clear hbx
 go_wp2_with fail
 refine hK.out _ _ (⟨k1.c0, k1.c1, k2.c0, k2.c1⟩) (fun hHeld => ?_)
 clear hK K
 try simp only [Act.put, zk]
 refine tr 5 fun K hK => ?_
 go_simp
 refine (HAt.out _ B3 u v).mono ?_
 rintro e wx ⟨rfl, hbx⟩
 have k1 := k1.on hbx
 have k2 := k2.on hbx
 have B3 := B3.trans (hbx.mono B3.size)
 generalize atI L m n' = a at HE ⊢
 generalize atI L u v = b at HE ⊢
 obtain ⟨pq, hpq⟩ : ∃ pq, (a != b) = pq := ⟨_, rfl⟩
 have HPq := Lh (show pq = r by rw [HE.out, ← hpq]; by_cases q : a = b <;> simp [q])
 clear hbx HE
 go_wp2_with fail
 refine hK.out _ _ (⟨k1.c0, k1.c1, k2.c0, k2.c1⟩) (fun hHeld => ?_)
 clear hK K
 try simp only [Act.put, zk]
 refine tk 6 ?_; try simp only [Act.put, zk]
 refine tk 7 ?_; try simp only [Act.put, zk]
 refine wpAnyH_done (by kernel_rfl) (NoPanic.normal ?_) _
 clear hHeld k1 k2
 go_wp2
 go_ret
 exact mkBol HPq.out B3
end Go.Proofs.YtmajllgfmclcoaaGreatDoor.Cor
namespace Go.Proofs.YtmajllgfmclcoaaGreatDoor.Cor
open Go.RowKit Base Go.Proofs.YtmajllgfmclcoaaGreatDoor.Cell Dms Til Hgt Go.Joins
open Cels (rowC RowC rowC_own rowC_at)
open Reg (ints RowIn rowIn_new Apart apart_of_below)
def Hw (W : World) (b : Nat) (h : List Int) : Prop := W.heap[b]? = some (.cells (ints h).toArray 3 (0, 0))
theorem ints_at {h : List Int} {v : Nat} {x : Int} (e : h[v]? = some x) : (ints h)[v]? = some (.int .i64 x) := by unfold ints; rw [List.getElem?_map, e]; rfl
section
variable {W W' : World} {b : Nat} {h : List Int}
theorem Hw.lt (k : Hw W b h) : b < W.heap.size := (Array.getElem?_eq_some_iff.1 k).1
theorem Hw.cell (k : Hw W b h) {v : Nat} {x : Int} (e : h[v]? = some x) : W.cell? ⟨b, v, none⟩ = some (.int .i64 x) := by
 rw [cell_of_block k v]
 have := ints_at e
 simpa using this
theorem Hw.frozen (k : Hw W b h) (v : Nat) : W.frozen? ⟨b, v, none⟩ = false := unfrozen_of_block k v
theorem Hw.set (k : Hw W b h) {v : Nat} (hv : v < h.length) (x : Int) : Hw (W.setCell ⟨b, v, none⟩ (.int .i64 x)) b (h.set v x) := by
 have e := block_setCell k (i := v) (v := .int .i64 x)
 refine Eq.trans e ?_
 congr 2
 simp [ints, List.map_set]
theorem Hw.on (k : Hw W b h) (hb : Below W.heap.size W W') : Hw W' b h := (hb.block b k.lt).trans k
theorem Hw.drew (k : Hw W b h) : Hw W.drew b h := k
end
structure Sp (w : World) (b : Nat) (x y : Int) (W : World) : Prop where
 ap : Apart b (b + 1) w W
 k1 : AtC W w.heap.size x y
section
variable {w W W' : World} {b : Nat} {x y : Int}
theorem Sp.drew (s : Sp w b x y W) : Sp w b x y W.drew := ⟨s.ap.trans (apart_of_below (Below.refl _ _).drew _ _), s.k1⟩
theorem AtC.apart {q : Nat} {u v : Int} (k : AtC W q u v) (ha : Apart b (b + 1) W W') (hq : b ≠ q) : AtC W' q u v := (ha.block q k.lt (by omega)).trans k
theorem Sp.apart (s : Sp w b x y W) (hb : b < w.heap.size) (ha : Apart b (b + 1) W W') : Sp w b x y W' := ⟨s.ap.trans ha, s.k1.apart ha (by omega)⟩
theorem Sp.on (s : Sp w b x y W) (hb : b < w.heap.size) (hw : Below W.heap.size W W') : Sp w b x y W' := s.apart hb (apart_of_below hw _ _)
end
theorem way {xs : List Int} {L : List Dm} {F : Nat → Int} {h h' : List Int} {v k : Nat} {c : Int × Int} {x y : Int} (ht : tilB xs L = true) (hF : ∀ d v w, Lk xs (xL L) (yL L) d v w → F w = F v + es d v) (hv : v < 81) (ex : x = ((v % 9 : Nat) : Int)) (ey : y = ((v / 9 : Nat) : Int))
  (hk : (endsP x y)[k]? = some c) (s : Mi xs (xL L) (yL L) F h h' v (((endsP x y).take k).map pl9)) :
  ∃ (z hp : Int) (wi : Nat), h'[wi]? = some z ∧ h'[v]? = some hp ∧ wi < 81 ∧ (wi : Int) = c.2 * 9 + c.1 ∧ (0 ≤ c.1 ∧ c.1 ≤ 8 ∧ 0 ≤ c.2 ∧ c.2 ≤ 8) ∧ c.1 = ((wi % 9 : Nat) : Int) ∧ c.2 = ((wi / 9 : Nat) : Int) ∧ wi < h'.length ∧ (-100 ≤ hp ∧ hp ≤ 100) ∧
   (z ≠ -1000 → Mi xs (xL L) (yL L) F h h' v (((endsP x y).take (k + 1)).map pl9)) ∧
   (z = -1000 → arB L x y c.1 c.2 = false → Mi xs (xL L) (yL L) F h h' v (((endsP x y).take (k + 1)).map pl9)) ∧
   (z = -1000 → arB L x y c.1 c.2 = true → wrap64 (hp + stepE x y c.1 c.2) = F wi ∧ Hs xs F (h'.set wi (F wi)) ∧ St (h'.set wi (F wi)) wi ∧ unH (h'.set wi (F wi)) < unH h ∧
    ∀ h2, Sx xs (xL L) (yL L) F (h'.set wi (F wi)) h2 wi → Mi xs (xL L) (yL L) F h h2 v (((endsP x y).take (k + 1)).map pl9)) := by
 obtain ⟨hkl, hke⟩ := List.getElem?_eq_some_iff.1 hk
 have hm : c ∈ endsP x y := hke ▸ List.getElem_mem hkl
 obtain ⟨w81, wi, d, l1, l2, l3⟩ := end_link ht hv ex ey hm
 obtain ⟨hin, _⟩ := ends_dir hm
 have htk : ((endsP x y).take (k + 1)).map pl9 = ((endsP x y).take k).map pl9 ++ [pl9 c] := by
  rw [List.take_succ_eq_append_getElem hkl, List.map_append, hke]; rfl
 obtain ⟨z, hz, zb, z1, z2⟩ := s.hs.at w81
 obtain ⟨hp, hhp, hpb, hp1, hp2⟩ := s.hs.at hv
 have hpF := hp2 s.here
 have hpb2 : -100 ≤ hp ∧ hp ≤ 100 := by
  rcases s.hs.val v hp hhp with r | ⟨_, _, r1, r2⟩
  ·exact absurd s.here (hp1.1 r)
  ·omega
 rw [htk]
 have a1 : arB L x y c.1 c.2 = true → Lk xs (xL L) (yL L) d v (pl9 c) := fun h => l2 (of_decide_eq_true h)
 refine ⟨z, hp, pl9 c, hz, hhp, w81, wi, by omega, by unfold pl9; omega, by unfold pl9; omega, by rw [s.hs.len]; exact w81, hpb2, fun hne => ?_, fun he har => ?_, fun he har => ?_⟩
 ·exact s.skip (fun _ _ => by
   refine Classical.byContradiction fun q => hne (z1.2 q))
 ·refine s.skip (fun d' hl => ?_)
  have := l1 d' hl
  rw [arB, decide_eq_false_iff_not] at har
  exact absurd this har
 ·have hl := a1 har
  have hF' := hF d v (pl9 c) hl
  rw [he] at hz
  have hes := es_or d v
  have hne : F (pl9 c) ≠ -1000 := by rcases hes with e | e <;> omega
  refine ⟨?_, s.hs.put hF s.here hl hz, (st_put (by rw [s.hs.len]; exact w81) hne).2 (.inl rfl), ?_, fun h2 hs2 => s.call hF hl hz hs2⟩
  ·rw [l3, hF', hpF]
   unfold wrap64
   rcases hes with e | e <;> rw [e] <;> omega
  ·have := un_set hz hne
   have := s.un
   omega
def SprP (xs : List Int) (L : List Dm) (F : Nat → Int) (h : List Int) (v b : Nat) (w : World) (e : Ending) (w' : World) : Prop :=
 e = .returned (.tuple #[]) ∧ ∃ h', Sx xs (xL L) (yL L) F h h' v ∧ Hw w' b h' ∧ Apart b (b + 1) w w'
theorem iIndexN (v : Nat) (hv : v < 81) {x y : Int} (ex : x = ((v % 9 : Nat) : Int)) (ey : y = ((v / 9 : Nat) : Int)) (w : World) :
  Calls Tryz.prog 83 #[.agg #[.int .i64 x, .int .i64 y]] w (Num (v : Int) w) := by
 have := iIndex x y (by omega) w
 rwa [show y * 9 + x = (v : Int) by omega] at this
set_option maxHeartbeats 8000000 in
theorem spread_body (A : Option Addr) (n cap : Nat) (xs : List Int) (L : List Dm) (hL : L.length = n) (hn : (n : Int) ≤ 9223372036854775807) (hf : Fits L) (ht : tilB xs L = true) (F : Nat → Int) (hF : ∀ d v w, Lk xs (xL L) (yL L) d v w → F w = F v + es d v) (f : Nat)
  (ih : ∀ f', f' + 1 = f → ∀ (w : World) (b v : Nat) (h : List Int) (x y : Int), unH h ≤ f' → v < 81 → Hs xs F h → St h v → Hw w b h → RowM w b A L → x = ((v % 9 : Nat) : Int) → y = ((v / 9 : Nat) : Int) →
   Calls Tryz.prog 84 #[.slice (some ⟨b, 0, none⟩) 81 81, .slice A n cap, .agg #[.int .i64 x, .int .i64 y]] w (SprP xs L F h v b w)) :
  ∀ (w : World) (b v : Nat) (h : List Int) (x y : Int), unH h ≤ f → v < 81 → Hs xs F h → St h v → Hw w b h → RowM w b A L → x = ((v % 9 : Nat) : Int) → y = ((v / 9 : Nat) : Int) →
  Calls Tryz.prog 84 #[.slice (some ⟨b, 0, none⟩) 81 81, .slice A n cap, .agg #[.int .i64 x, .int .i64 y]] w (SprP xs L F h v b w) := by
 intro w b v h x y hu hv hs hst hH hR ex ey
 have hbw := hH.lt
 have IH := Lh (fun (W : World) (wi : Nat) (h2 : List Int) (x' y' : Int) (hu' : unH h2 < unH h) (h81 : wi < 81) (hs2 : Hs xs F h2) (hst2 : St h2 wi) (hH2 : Hw W b h2) (ha : Apart b (b + 1) w W) (e1 : x' = ((wi % 9 : Nat) : Int)) (e2 : y' = ((wi / 9 : Nat) : Int)) =>
  ih (f - 1) (by omega) W b wi h2 x' y' (by omega) h81 hs2 hst2 hH2 (hR.below (ha.below NR (by omega)) NR) e1 e2)
 have HEn := Lh (fun W => iEnds x y (by omega) W)
 have HAr := Lh (fun (W : World) (c : Int × Int) (ha : Apart b (b + 1) w W) (hc : 0 ≤ c.1 ∧ c.1 ≤ 8 ∧ 0 ≤ c.2 ∧ c.2 ≤ 8) => iAround W A n cap b L hL hn hf (hR.below (ha.below NR (by omega)) NR) (by have := ha.size; omega) x y c.1 c.2 (by omega) hc)
 have HWay := Lh (fun k c h' (hk : (endsP x y)[k]? = some c) s => way (h := h) (h' := h') ht hF hv ex ey hk s)
 have HIx := Lh (fun W => iIndexN v hv ex ey W)
 have HSt := Lh (Mi.start (X := xL L) (Y := yL L) hs hst)
 have HFin := Lh (fun h' (s : Mi xs (xL L) (yL L) F h h' v ((endsP x y).map pl9)) => s.done (fun d w' hl => by rw [ex, ey]; exact ends_all hv hl))
 have HVv := Lh hv
 have HHw := Lh hH
 have T0 := Lh (show Sp w b x y (w.alloc (.cells #[.int .i64 x, .int .i64 y] 96)) from ⟨apart_of_below (below_alloc1 w _) _ _, AtC.new w x y⟩)
 have HBw := Lh hbw
 have HEl := Lh (ends_le x y)
 clear hL hn hf ht hF ih hu hv hs hst hH hR ex ey
 go_enter Tryz.func84, Tryz.ntmps84
 go_wp2_with fail
 have HH1 := Lh (HHw.out.on (below_alloc1 w (.cells #[.int .i64 x, .int .i64 y] 96)))
 clear HHw
 generalize w.alloc (.cells #[.int .i64 x, .int .i64 y] 96) = W1 at T0 HH1 ⊢
 refine (HEn.out W1).mono ?_
 rintro e w2 ⟨A2, cap2, rfl, hown, hb2⟩
 have T2 := Lh (T0.out.on HBw.out hb2)
 have HH2 := Lh (HH1.out.on hb2)
 have HRow := Lh (rowIn_new hown)
 have hlo : b < W1.heap.size := HH1.out.lt
 have hlo2 : w.heap.size < W1.heap.size := T0.out.k1.lt
 generalize W1.heap.size = lo at HRow hlo hlo2
 generalize w2.heap.size = hi at HRow
 clear hown hb2 T0 HH1 HEn
 have HEk := Lh (fun k (hk : k < (endsP x y).length) => show ∃ c, (endsP x y)[k]? = some c from ⟨_, List.getElem?_eq_getElem hk⟩)
 have HEe := Lh (show (endsP x y).take (endsP x y).length = endsP x y from List.take_length)
 have HSt := Lh (show Mi xs (xL L) (yL L) F h h v (((endsP x y).take 0).map pl9) from HSt.out)
 generalize endsP x y = E at HWay HFin HEl HRow HEk HEe HSt ⊢
 obtain ⟨m, hmL⟩ : ∃ m, m = E.length := ⟨_, rfl⟩
 rw [← hmL] at HEl HEk HEe HRow ⊢
 have hm4 := HEl.out
 clear hmL hbw
 go_wp2_with fail
 go_loopw [11] (fun i wr => ∃ (k : Nat) (h' : List Int), k ≤ m ∧ i = .int .i64 k ∧ Hid (Mi xs (xL L) (yL L) F h h' v ((E.take k).map pl9)) ∧ Hid (Hw wr b h') ∧ Hid (Sp w b x y wr) ∧ Hid (RowIn wr lo hi 96 2 (.slice A2 m cap2) m (rowC E))) (fun i _ => m - (intOf i).toNat)
 case atStart => exact ⟨0, h, Nat.zero_le _, rfl, HSt, HH2, T2, HRow⟩
 case round =>
  clear HSt HH2 T2 HRow
  obtain ⟨k, h', hk, rfl, HMid, HMk, HT, HRow⟩ := hrel
  by_cases hlt : k < m
  ·obtain ⟨c, hc⟩ := HEk.out k hlt
   obtain ⟨q, cc, hv1, hq1, hq2⟩ := HRow.out.1.form (by omega)
   injection hv1 with hA2 hm2 hcp2
   subst hA2
   subst hcp2
   obtain ⟨hr1, hr2⟩ := rowC_at E k c hc
   have hc0 := HRow.out.1.cells (g := q) rfl _ _ hr1
   have hc1 := HRow.out.1.cells (g := q) rfl _ _ hr2
   rw [Base.add_plain] at hc0 hc1
   obtain ⟨z, hp, wi, g1, g2, g3, g4, g5, g6, g7, g8, g9, p1, p2, p3⟩ := HWay.out k c h' hc HMid.out
   have HArc := Lh (fun W ha => HAr.out W c ha g5)
   have HIxc := Lh (fun W => iIndexN wi g3 g6 g7 W)
   have HEdc := Lh (fun W => iEdge x y c.1 c.2 W)
   have HG := Lh (And.intro g3 (And.intro g6 (And.intro g7 g8)))
   have HP1 := Lh p1
   have HP2 := Lh p2
   have HP3 := Lh p3
   have HZ := Lh g1
   have HHp := Lh g2
   have HBd := Lh g9
   have hwiI : (wi : Int) < 81 := by omega
   clear p1 p2 p3 hr1 hr2 HMid g1 g2 g4 g5 g6 g7 g8 g9 hc
   obtain ⟨cx, cy⟩ := c
   simp only at hc0 hc1 HArc HIxc HEdc HP2 HP3 HG
   generalize arB L x y cx cy = ar at HArc HP2 HP3
   generalize stepE x y cx cy = st at HEdc HP3
   go_upto_region 4 with fail
   have hB3 := below_alloc1 wr (.cells #[.int .i64 cx, .int .i64 cy] 96)
   have KN := AtC.new wr cx cy
   have HM3 := HMk.out.on hB3
   have HT3 := HT.out.on HBw.out hB3
   have HR3 := Lh (HRow.out.on hB3)
   have hbq : b < wr.heap.size := HMk.out.lt
   have hwq : w.heap.size < wr.heap.size := HT.out.k1.lt
   generalize wr.alloc (.cells #[.int .i64 cx, .int .i64 cy] 96) = W3 at KN HM3 HT3 HR3 ⊢
   generalize wr.heap.size = bq at KN hbq hwq ⊢
   clear hB3 HMk HT HRow hc0 hc1
   have n0 := KN.c0
   have n1 := KN.c1
   go_wp2_with fail
   refine (HIxc.out _).mono ?_
   rintro e w4 ⟨rfl, hb4⟩
   have KN := KN.on hb4
   have HM3 := HM3.on hb4
   have HT3 := HT3.on HBw.out hb4
   have HR3 := Lh (HR3.out.on hb4)
   clear hb4 n0 n1
   have n0 := KN.c0
   have n1 := KN.c1
   have m0 := HT3.k1.c0
   have m1 := HT3.k1.c1
   have hz := HM3.cell HZ.out
   by_cases hze : z = -1000
   ·subst hze
    have hze : ((-1000 : Int) == -1000) = true := rfl
    go_wp2_with fail
    refine (HArc.out _ HT3.ap).mono ?_
    rintro e w5 ⟨rfl, hb5⟩
    have KN := KN.on hb5
    have HM3 := HM3.on hb5
    have HT3 := HT3.on HBw.out hb5
    have HR3 := Lh (HR3.out.on hb5)
    clear hb5 n0 n1 m0 m1 hz
    cases ar with
    | false =>
     have HNx := Lh (HP2.out (by trivial) (by first | rfl | trivial))
     have HM5 := Lh HM3
     have HT5 := Lh HT3
     clear HP1 HP2 HP3 KN HM3 HT3 hze HZ HHp
     go_wp2
     go_roundw
     case rel => exact ⟨k + 1, h', by omega, by go_num, HNx, HM5, HT5, HR3⟩
     case measure => (simp [intOf] <;> omega)
    | true =>
     obtain ⟨q1, q2, q3, q4, q5⟩ := HP3.out (by trivial) (by first | rfl | trivial)
     have HQ := Lh (And.intro q2 (And.intro q3 (And.intro q4 q5)))
     clear HP1 HP2 HP3 hze q2 q3 q4 q5
     go_upto_region 5 with fail
     have KN := KN.drew
     have HM3 := HM3.drew
     have HT3 := HT3.drew
     have HR3 := Lh HR3.out.drew
     refine wp_region_noPanic ?_
     refine wp_region_held_drew (S := (fun w' => w'.cell? ⟨bq, 0, none⟩ = some (.int .i64 cx) ∧ w'.cell? ⟨bq, 1, none⟩ = some (.int .i64 cy) ∧ w'.cell? ⟨w.heap.size, 0, none⟩ = some (.int .i64 x) ∧ w'.cell? ⟨w.heap.size, 1, none⟩ = some (.int .i64 y) ∧ w'.cell? ⟨b, v, none⟩ = some (.int .i64 hp))) (by kernel_rfl) (⟨KN.c0, KN.c1, HT3.k1.c0, HT3.k1.c1, HM3.cell HHp.out⟩) (fun hHeld => ?_)
     generalize World.drew _ = WR at KN HM3 HT3 HR3 hHeld ⊢
     have hvI : (v : Int) < 81 := by have := HVv.out; omega
     refine tk 0 ?_; try simp only [Act.put, zk]
     refine tk 1 ?_; try simp only [Act.put, zk]
     refine tk 3 ?_; try simp only [Act.put, zk]
     refine tk 4 ?_; try simp only [Act.put, zk]
     refine tk 8 ?_; try simp only [Act.put, zk]
     refine tk 9 ?_; try simp only [Act.put, zk]
     refine tk 10 ?_; try simp only [Act.put, zk]
     refine tk 11 ?_; try simp only [Act.put, zk]
     refine tk 12 ?_; try simp only [Act.put, zk]
     refine tk 13 ?_; try simp only [Act.put, zk]
     refine tk 14 ?_; try simp only [Act.put, zk]
     refine tk 15 ?_; try simp only [Act.put, zk]
     refine tr 2 fun K hK => ?_
     go_simp
     refine (HIxc.out _).mono ?_
     rintro e wx ⟨rfl, hbx⟩
     have KN := KN.on hbx
     have HM3 := HM3.on hbx
     have HT3 := HT3.on HBw.out hbx
     have HR3 := Lh (HR3.out.on hbx)
     clear hbx
     have HS3 := And.intro KN.c0 (And.intro KN.c1 (And.intro HT3.k1.c0 (And.intro HT3.k1.c1 (HM3.cell HHp.out))))
     go_wp2_with fail
     refine hK.out _ _ (HS3) (fun hHeld => ?_)
     clear hK K
     try simp only [Act.put, zk]
     refine tr 5 fun K hK => ?_
     go_simp
     refine (HIx.out _).mono ?_
     rintro e wx ⟨rfl, hbx⟩
     have KN := KN.on hbx
     have HM3 := HM3.on hbx
     have HT3 := HT3.on HBw.out hbx
     have HR3 := Lh (HR3.out.on hbx)
     clear hbx HS3
     have HS3 := And.intro KN.c0 (And.intro KN.c1 (And.intro HT3.k1.c0 (And.intro HT3.k1.c1 (HM3.cell HHp.out))))
     go_wp2_with fail
     refine hK.out _ _ (HS3) (fun hHeld => ?_)
     clear hK K
     try simp only [Act.put, zk]
     refine tk 6 ?_; try simp only [Act.put, zk]
     refine tk 7 ?_; try simp only [Act.put, zk]
     refine tr 16 fun K hK => ?_
     go_simp
     refine (HEdc.out _).mono ?_
     rintro e wx ⟨rfl, hbx⟩
     have KN := KN.on hbx
     have HM3 := HM3.on hbx
     have HT3 := HT3.on HBw.out hbx
     have HR3 := Lh (HR3.out.on hbx)
     clear hbx HS3
     have HS3 := And.intro KN.c0 (And.intro KN.c1 (And.intro HT3.k1.c0 (And.intro HT3.k1.c1 (HM3.cell HHp.out))))
     go_wp2_with fail
     refine hK.out _ _ (HS3) (fun hHeld => ?_)
     clear hK K
     try simp only [Act.put, zk]
     refine tk 17 ?_; try simp only [Act.put, zk]
     refine tk 18 ?_; try simp only [Act.put, zk]
     refine tr 19 fun K hK => ?_
     have hz := HM3.cell HZ.out
     have hzf := HM3.frozen wi
     have hwl := HG.out.2.2.2
     have hvw : v ≠ wi := fun e => by
      have e1 := HZ.out
      rw [← e, HHp.out] at e1
      injection e1 with e1
      have := HBd.out
      omega
     have HHs := Lh (show (h'.set wi (F wi))[v]? = some hp by rw [List.getElem?_set_ne (fun e => hvw e.symm)]; exact HHp.out)
     go_simp
     have q1' : IntKind.i64.wrap (hp + st) = F wi := by rw [← q1, IntKind.wrap_i64]; unfold wrap64; omega
     rw [q1']
     have hap := (Apart.refl b (b + 1) wx).setCell (p := ⟨b, wi, none⟩) NR (Nat.lt_succ_self _) (.int .i64 (F wi))
     have HM3 := HM3.set hwl (F wi)
     have KN := KN.apart hap (by omega)
     have HT3 := HT3.apart HBw.out hap
     have HR3 := Lh (HR3.out.apart hap (.inr (by omega)))
     clear HS3 hz hzf hvw hap q1 q1'
     generalize wx.setCell ⟨b, wi, none⟩ (.int .i64 (F wi)) = W6 at KN HM3 HT3 HR3 ⊢
     refine hK.out _ _ ⟨KN.c0, KN.c1, HT3.k1.c0, HT3.k1.c1, HM3.cell HHs.out⟩ (fun hHeld => ?_)
     clear hK K
     try simp only [Act.put, zk]
     refine wpAnyH_done (by kernel_rfl) (NoPanic.normal ?_) _
     clear hHeld
     have n0 := KN.c0
     have n1 := KN.c1
     go_wp2_with fail
     refine (IH.out W6 wi _ cx cy HQ.out.2.2.1 HG.out.1 HQ.out.1 HQ.out.2.1 HM3 HT3.ap HG.out.2.1 HG.out.2.2.1).mono ?_
     rintro e w7 ⟨rfl, h2, hs2, hH2, ha2⟩
     have HNx := Lh (HQ.out.2.2.2 h2 hs2)
     have HM5 := Lh hH2
     have HT5 := Lh (HT3.apart HBw.out ha2)
     have HR5 := Lh (HR3.out.apart ha2 (.inr (by omega)))
     clear n0 n1 KN HM3 HT3 HR3 hs2 hH2 ha2 HQ HZ HHp HHs
     go_wp2
     go_roundw
     case rel => exact ⟨k + 1, h2, by omega, by go_num, HNx, HM5, HT5, HR5⟩
     case measure => (simp [intOf] <;> omega)
   ·have hzn : (z == -1000) = false := by rw [beq_eq_false_iff_ne]; exact hze
    have HNx := Lh (HP1.out hze)
    have HM5 := Lh HM3
    have HT5 := Lh HT3
    clear HP1 HP2 HP3 KN HM3 HT3 hze HHp
    go_wp2
    go_roundw
    case rel => exact ⟨k + 1, h', by omega, by go_num, HNx, HM5, HT5, HR3⟩
    case measure => (simp [intOf] <;> omega)
  ·obtain rfl : k = m := by omega
   have HDone := Lh (HFin.out h' (by have q := HMid.out; rwa [HEe.out] at q))
   have hA := HT.out.ap
   clear HMid
   go_wp2
   exact bodyPost_ret (v := .tuple #[]) (by simp [results, Tryz.results84, go_sem]) rfl ⟨rfl, h', HDone.out, HMk.out, hA⟩
set_option maxHeartbeats 8000000 in
theorem iSpread (A : Option Addr) (n cap : Nat) (xs : List Int) (L : List Dm) (hL : L.length = n) (hn : (n : Int) ≤ 9223372036854775807) (hf : Fits L) (ht : tilB xs L = true) (F : Nat → Int) (hF : ∀ d v w, Lk xs (xL L) (yL L) d v w → F w = F v + es d v) :
  ∀ (f : Nat) (w : World) (b v : Nat) (h : List Int) (x y : Int), unH h ≤ f → v < 81 → Hs xs F h → St h v → Hw w b h → RowM w b A L → x = ((v % 9 : Nat) : Int) → y = ((v / 9 : Nat) : Int) →
  Calls Tryz.prog 84 #[.slice (some ⟨b, 0, none⟩) 81 81, .slice A n cap, .agg #[.int .i64 x, .int .i64 y]] w (SprP xs L F h v b w) := by
 intro f
 induction f with
 | zero => exact spread_body A n cap xs L hL hn hf ht F hF 0 (fun f' hf' => by omega)
 | succ f ih =>
  exact spread_body A n cap xs L hL hn hf ht F hF (f + 1) (fun f' hf' => by
   have e : f' = f := Nat.succ.inj hf'
   subst e
   exact ih)
end Go.Proofs.YtmajllgfmclcoaaGreatDoor.Cor
namespace Go.Proofs.YtmajllgfmclcoaaGreatDoor.Wg
inductive Pth (E : Nat → Nat → Prop) : Nat → Nat → Nat → Prop
 | zero (i : Nat) : Pth E 0 i i
 | step {n i j k : Nat} (h : Pth E n i j) (e : E j k) : Pth E (n + 1) i k
section
variable {E : Nat → Nat → Prop} {n m i j k : Nat}
theorem pth_trans (h : Pth E n i j) (h2 : Pth E m j k) : Pth E (n + m) i k := by
 induction h2 with
 | zero j => exact h
 | step h2 e ih => exact .step (ih h) e
theorem pth_one (e : E i j) : Pth E 1 i j := .step (.zero i) e
theorem pth_front (e : E i j) (h : Pth E n j k) : Pth E (n + 1) i k := by
 rw [Nat.add_comm]; exact pth_trans (pth_one e) h
theorem pth_rev (hs : ∀ i j, E i j → E j i) (h : Pth E n i j) : Pth E n j i := by
 induction h with
 | zero i => exact .zero i
 | step h e ih => exact pth_front (hs _ _ e) ih
theorem pth_zero (h : Pth E 0 i j) : i = j := by cases h; rfl
theorem pth_last (h : Pth E (n + 1) i k) : ∃ j, Pth E n i j ∧ E j k := by cases h with | step h e => exact ⟨_, h, e⟩
theorem pth_first : ∀ {n i k}, Pth E (n + 1) i k → ∃ j, E i j ∧ Pth E n j k := by
 intro n
 induction n with
 | zero => intro i k h; obtain ⟨j, h, e⟩ := pth_last h; have := pth_zero h; subst this; exact ⟨k, e, .zero k⟩
 | succ n ih => intro i k h; obtain ⟨j, h, e⟩ := pth_last h; obtain ⟨a, ea, ha⟩ := ih h; exact ⟨a, ea, .step ha e⟩
def IsD (E : Nat → Nat → Prop) (i j : Nat) (d : Int) : Prop := (∃ n : Nat, d = n ∧ Pth E n i j ∧ ∀ m, Pth E m i j → n ≤ m) ∨ (d = -1 ∧ ∀ m, ¬ Pth E m i j)
theorem isD_uniq {d e : Int} (h : IsD E i j d) (h2 : IsD E i j e) : d = e := by
 rcases h with ⟨n, rfl, p, l⟩ | ⟨rfl, l⟩ <;> rcases h2 with ⟨n2, rfl, p2, l2⟩ | ⟨rfl, l2⟩
 ·have := l _ p2; have := l2 _ p; omega
 ·exact absurd p (l2 _)
 ·exact absurd p2 (l _)
 ·rfl
theorem isD_rev {d : Int} (hs : ∀ i j, E i j → E j i) (h : IsD E i j d) : IsD E j i d := by
 rcases h with ⟨n, rfl, p, l⟩ | ⟨rfl, l⟩
 ·exact .inl ⟨n, rfl, pth_rev hs p, fun m q => l m (pth_rev hs q)⟩
 ·exact .inr ⟨rfl, fun m q => l m (pth_rev hs q)⟩
end
def upd (d : Nat → Int) (v : Nat) (x : Int) : Nat → Int := fun u => if u = v then x else d u
theorem upd_same (d : Nat → Int) (v : Nat) (x : Int) : upd d v x v = x := by unfold upd; rw [if_pos rfl]
theorem upd_other {d : Nat → Int} {v u : Nat} {x : Int} (h : u ≠ v) : upd d v x u = d u := by unfold upd; rw [if_neg h]
def Ed (ls : Nat → List Nat) (u v : Nat) : Prop := v ∈ ls u
structure Bs (ls : Nat → List Nat) (m st : Nat) (d : Nat → Int) (q : List Nat) (k i : Nat) : Prop where
 lt : ∀ v ∈ q, v < m
 nd : q.Nodup
 mem : ∀ v, v ∈ q → ∃ n : Nat, d v = n ∧ Pth (Ed ls) n st v
 non : ∀ v, v ∉ q → d v = -1
 src : st ∈ q ∧ d st = 0
 don : ∀ a (ha : a < q.length), a < k → ∀ v ∈ ls q[a], v ∈ q ∧ d v ≤ d q[a] + 1
 cur : ∀ (h : k < q.length) b (hb : b < (ls q[k]).length), b < i → (ls q[k])[b] ∈ q ∧ d (ls q[k])[b] ≤ d q[k] + 1
 ord : ∀ a b (ha : a < q.length) (hb : b < q.length), a ≤ b → d q[a] ≤ d q[b]
 top : ∀ (h : k < q.length) a (ha : a < q.length), d q[a] ≤ d q[k] + 1
 bnd : ∀ a (ha : a < q.length), d q[a] ≤ (a : Int)
section
variable {ls : Nat → List Nat} {m st : Nat} {d : Nat → Int} {q : List Nat} {k i : Nat}
theorem Bs.start (ls : Nat → List Nat) (h : st < m) : Bs ls m st (upd (fun _ => -1) st 0) [st] 0 0 := by
 refine ⟨fun v hv => by rw [List.mem_singleton.1 hv]; exact h, by simp, fun v hv => ?_, fun v hv => ?_, ⟨by simp, upd_same _ _ _⟩, fun a ha h => by omega, fun h b hb hi => by omega, fun a b ha hb hab => ?_, fun h a ha => ?_, fun a ha => ?_⟩
 ·rw [List.mem_singleton.1 hv, upd_same]; exact ⟨0, rfl, .zero st⟩
 ·exact upd_other (fun e => hv (by rw [e]; simp))
 ·obtain rfl : a = 0 := by simp at ha; omega
  obtain rfl : b = 0 := by simp at hb; omega
  exact Int.le_refl _
 ·obtain rfl : a = 0 := by simp at ha; omega
  show _ ≤ upd (fun _ => -1) st 0 st + 1
  have e : [st][0] = st := rfl
  rw [e, upd_same]; omega
 ·obtain rfl : a = 0 := by simp at ha; omega
  have e : [st][0] = st := rfl
  rw [e, upd_same]; exact Int.le_refl _
theorem Bs.length (s : Bs ls m st d q k i) : q.length ≤ m := by
 have h1 := List.Nodup.length_le_of_subset s.nd (l₂ := List.range m) (fun x hx => List.mem_range.2 (s.lt x hx))
 rw [List.length_range] at h1; exact h1
theorem Bs.found (s : Bs ls m st d q k i) {v : Nat} (h : 0 ≤ d v) : v ∈ q := by
 by_cases hv : v ∈ q
 ·exact hv
 ·have := s.non v hv; omega
theorem Bs.ge (s : Bs ls m st d q k i) (v : Nat) : -1 ≤ d v := by
 by_cases hv : v ∈ q
 ·obtain ⟨n, e, _⟩ := s.mem v hv; omega
 ·have := s.non v hv; omega
theorem Bs.skip (s : Bs ls m st d q k i) (hk : k < q.length) (hi : i < (ls q[k]).length) (h : 0 ≤ d (ls q[k])[i]) : Bs ls m st d q k (i + 1) := by
 refine ⟨s.lt, s.nd, s.mem, s.non, s.src, s.don, fun h1 b hb hbi => ?_, s.ord, s.top, s.bnd⟩
 by_cases e : b = i
 ·subst e
  have hm := s.found h
  refine ⟨hm, ?_⟩
  obtain ⟨a, ha, e⟩ := List.getElem_of_mem hm
  rw [← e]
  exact s.top hk a ha
 ·exact s.cur h1 b hb (by omega)
theorem Bs.add (hm : ∀ u v, v ∈ ls u → v < m) (s : Bs ls m st d q k i) (hk : k < q.length) (hi : i < (ls q[k]).length) (h : d (ls q[k])[i] < 0) : Bs ls m st (upd d (ls q[k])[i] (d q[k] + 1)) (q ++ [(ls q[k])[i]]) k (i + 1) := by
 obtain ⟨v, hv⟩ : ∃ v, v = (ls q[k])[i] := ⟨_, rfl⟩
 rw [← hv] at h ⊢
 have hvl : v ∈ ls q[k] := by rw [hv]; exact List.getElem_mem hi
 have hnq : v ∉ q := fun hq => by obtain ⟨n, e, _⟩ := s.mem v hq; omega
 have hne : ∀ u, u ∈ q → u ≠ v := fun u hu e => hnq (e ▸ hu)
 have keep : ∀ u, u ∈ q → upd d v (d q[k] + 1) u = d u := fun u hu => upd_other (hne u hu)
 have hqk : q[k] ∈ q := List.getElem_mem hk
 obtain ⟨nk, ek, pk⟩ := s.mem _ hqk
 have at_l : ∀ a (ha : a < (q ++ [v]).length) (h1 : a < q.length), (q ++ [v])[a] = q[a] := fun a ha h1 => List.getElem_append_left h1
 have at_r : ∀ a (ha : a < (q ++ [v]).length), ¬ a < q.length → (q ++ [v])[a] = v := fun a ha h1 => by
  rw [List.getElem_append_right (by omega)]; simp
 have hk2 : (q ++ [v])[k]'(by simp; omega) = q[k] := at_l k _ hk
 refine ⟨fun u hu => ?_, ?_, fun u hu => ?_, fun u hu => ?_, ⟨by simp [s.src.1], by rw [keep _ s.src.1]; exact s.src.2⟩, fun a ha hak u hu => ?_, fun h1 b hb hbi => ?_, fun a b ha hb hab => ?_, fun h1 a ha => ?_, fun a ha => ?_⟩
 ·rcases List.mem_append.1 hu with h1 | h1
  ·exact s.lt u h1
  ·rw [List.mem_singleton.1 h1]; exact hm _ _ hvl
 ·rw [List.nodup_append]
  exact ⟨s.nd, by simp, fun a ha b hb => by rw [List.mem_singleton.1 hb]; exact hne a ha⟩
 ·rcases List.mem_append.1 hu with h1 | h1
  ·rw [keep u h1]; exact s.mem u h1
  ·rw [List.mem_singleton.1 h1, upd_same]
   exact ⟨nk + 1, by rw [ek]; omega, .step pk hvl⟩
 ·rw [upd_other (fun e => hu (by rw [e]; simp))]
  exact s.non u (fun h1 => hu (List.mem_append_left _ h1))
 ·have haq : a < q.length := by omega
  rw [at_l a ha haq] at hu ⊢
  obtain ⟨h1, h2⟩ := s.don a haq hak u hu
  rw [keep u h1, keep _ (List.getElem_mem haq)]
  exact ⟨List.mem_append_left _ h1, h2⟩
 ·simp only [hk2] at hb ⊢
  rw [keep _ hqk]
  by_cases e : b = i
  ·subst e
   rw [← hv, upd_same]
   exact ⟨by simp, Int.le_refl _⟩
  ·obtain ⟨h2, h3⟩ := s.cur hk b hb (by omega)
   rw [keep _ h2]
   exact ⟨List.mem_append_left _ h2, h3⟩
 ·by_cases h1 : b < q.length
  ·rw [at_l a ha (by omega), at_l b hb h1, keep _ (List.getElem_mem _), keep _ (List.getElem_mem _)]
   exact s.ord a b (by omega) h1 hab
  ·rw [at_r b hb h1, upd_same]
   by_cases h2 : a < q.length
   ·rw [at_l a ha h2, keep _ (List.getElem_mem _)]
    exact s.top hk a h2
   ·rw [at_r a ha h2, upd_same]; exact Int.le_refl _
 ·rw [hk2, keep _ hqk]
  by_cases h2 : a < q.length
  ·rw [at_l a ha h2, keep _ (List.getElem_mem _)]
   exact s.top hk a h2
  ·rw [at_r a ha h2, upd_same]; exact Int.le_refl _
 ·by_cases h2 : a < q.length
  ·rw [at_l a ha h2, keep _ (List.getElem_mem _)]
   exact s.bnd a h2
  ·rw [at_r a ha h2, upd_same]
   have := s.bnd k hk
   omega
theorem Bs.next (s : Bs ls m st d q k i) (hk : k < q.length) (hi : (ls q[k]).length ≤ i) : Bs ls m st d q (k + 1) 0 := by
 refine ⟨s.lt, s.nd, s.mem, s.non, s.src, fun a ha hak v hv => ?_, fun h b hb hi => by omega, s.ord, fun h a ha => ?_, s.bnd⟩
 ·by_cases e : a = k
  ·subst e
   obtain ⟨b, hb, rfl⟩ := List.getElem_of_mem hv
   exact s.cur hk b hb (by omega)
  ·exact s.don a ha (by omega) v hv
 ·have h1 := s.top hk a ha
  have h2 := s.ord k (k + 1) hk h (by omega)
  omega
theorem Bs.all (s : Bs ls m st d q k i) (hk : q.length ≤ k) : ∀ n v, Pth (Ed ls) n st v → v ∈ q ∧ d v ≤ n := by
 intro n
 induction n with
 | zero => intro v p; have := pth_zero p; subst this; exact ⟨s.src.1, by rw [s.src.2]; exact Int.le_refl _⟩
 | succ n ih =>
  intro v p
  obtain ⟨u, pu, e⟩ := pth_last p
  obtain ⟨h1, h2⟩ := ih u pu
  obtain ⟨a, ha, rfl⟩ := List.getElem_of_mem h1
  obtain ⟨h3, h4⟩ := s.don a ha (by omega) v e
  exact ⟨h3, by omega⟩
theorem Bs.fin (s : Bs ls m st d q k i) (hk : q.length ≤ k) (v : Nat) : IsD (Ed ls) st v (d v) := by
 by_cases hv : v ∈ q
 ·obtain ⟨n, e, p⟩ := s.mem v hv
  exact .inl ⟨n, e, p, fun m' p' => by have := (s.all hk m' v p').2; omega⟩
 ·exact .inr ⟨s.non v hv, fun m' p' => hv (s.all hk m' v p').1⟩
end
end Go.Proofs.YtmajllgfmclcoaaGreatDoor.Wg
namespace Go.Proofs.YtmajllgfmclcoaaGreatDoor.Wg
open Go.RowKit Go.Joins
open Reg (own_below own_base)
def natV (l : List Nat) : List Value := l.map fun n : Nat => Value.int .i64 (n : Int)
theorem natV_length (l : List Nat) : (natV l).length = l.length := by unfold natV; simp
theorem natV_snoc (l : List Nat) (n : Nat) : natV (l ++ [n]) = natV l ++ [.int .i64 (n : Int)] := by unfold natV; simp
theorem natV_at {l : List Nat} {i v : Nat} (h : l[i]? = some v) : (natV l)[i]? = some (.int .i64 (v : Int)) := by unfold natV; rw [List.getElem?_map, h]; rfl
def rowF (n : Nat) (a : Nat → Int) : List Value := (List.range n).map fun i => Value.int .i64 (a i)
theorem rowF_length (n : Nat) (a : Nat → Int) : (rowF n a).length = n := by unfold rowF; simp
theorem rowF_at {n : Nat} {a : Nat → Int} {i : Nat} (h : i < n) : (rowF n a)[i]? = some (.int .i64 (a i)) := by unfold rowF; rw [List.getElem?_map, List.getElem?_range h]; rfl
theorem rowF_set {n : Nat} (a : Nat → Int) {i : Nat} (h : i < n) (x : Int) : (rowF n a).set i (.int .i64 x) = rowF n (upd a i x) := by
 apply List.ext_getElem?
 intro j
 by_cases hj : j < n
 ·rw [List.getElem?_set, rowF_at (a := upd a i x) hj, rowF_at (a := a) hj]
  by_cases e : i = j
  ·subst e; rw [if_pos rfl, if_pos (by rw [rowF_length]; exact h), upd_same]
  ·rw [if_neg e, upd_other (fun q => e q.symm)]
 ·rw [List.getElem?_eq_none (by rw [List.length_set, rowF_length]; omega), List.getElem?_eq_none (by rw [rowF_length]; omega)]
theorem rowF_same {n : Nat} {a b : Nat → Int} (h : ∀ i, i < n → a i = b i) : rowF n a = rowF n b := by
 unfold rowF
 refine List.map_congr_left fun i hi => ?_
 rw [h i (List.mem_range.1 hi)]
def NumR (W : World) (base b n : Nat) (a : Nat → Int) : Prop := W.ownsRow base 3 1 (.slice (some ⟨b, 0, none⟩) n n) n (rowF n a)
section
variable {W W' : World} {base b n : Nat} {a : Nat → Int}
theorem NumR.lt (h : NumR W base b n a) : base ≤ b ∧ b < W.heap.size := World.ownsRow.lt h b rfl
theorem NumR.cell (h : NumR W base b n a) {i : Nat} (hi : i < n) : W.cell? ⟨b, i, none⟩ = some (.int .i64 (a i)) := (World.ownsRow.cellAt h i (by omega)).trans (rowF_at hi)
theorem NumR.froz (h : NumR W base b n a) (i : Nat) : W.frozen? ⟨b, i, none⟩ = false := World.ownsRow.frozenAt h i
theorem NumR.set (h : NumR W base b n a) {i : Nat} (hi : i < n) (x : Int) : NumR (W.setCell ⟨b, i, none⟩ (.int .i64 x)) base b n (upd a i x) := by
 have := (World.ownsRow.stored h i (.int .i64 x)).1
 rwa [rowF_set a hi] at this
theorem NumR.same {a' : Nat → Int} (h : NumR W base b n a) (e : ∀ i, i < n → a i = a' i) : NumR W base b n a' := by unfold NumR; rw [← rowF_same e]; exact h
theorem NumR.on (h : NumR W base b n a) (hb : Below W.heap.size W W') : NumR W' base b n a := own_below h hb NR
theorem NumR.kept {row : Option Nat} (h : NumR W base b n a) (hg : W.grownBy W' row) (hne : ∀ g, row = some g → g ≠ b) : NumR W' base b n a :=
 World.ownsRow.kept h hg (.inr (fun q => hne b q.symm rfl))
theorem NumR.made (h : W.ownsRow base 3 1 (.slice (some ⟨b, 0, none⟩) n n) n (madeCells (Value.int .i64 0).cells (n * 1)).toList) : NumR W base b n (fun _ => 0) := by
 rw [show (Value.int .i64 0).cells = #[.int .i64 0] from rfl, Nat.mul_one, toList_madeCells_one] at h
 unfold NumR rowF
 rwa [show (List.range n).map (fun i => Value.int .i64 ((fun _ => (0 : Int)) i)) = List.replicate n (.int .i64 0) by
  rw [List.map_const', List.length_range]]
end
def RdN (w : World) (B : Nat) (A : Option Addr) (l : List Nat) : Prop := ∃ b, (0 < l.length → A = some ⟨b, 0, none⟩ ∧ b < B) ∧ ∀ (i : Nat) (hi : i < l.length), w.cell? ⟨b, i, none⟩ = some (.int .i64 ((l[i] : Nat) : Int))
theorem RdN.below {w w' : World} {B B' : Nat} {A : Option Addr} {l : List Nat} (h : RdN w B A l) (hb : Below B' w w') (hB : B ≤ B') : RdN w' B A l := by
 obtain ⟨b, h1, h2⟩ := h
 exact ⟨b, h1, fun i hi => (hb.cell (p := ⟨b, i, none⟩) (by show b < _; have := (h1 (by omega)).2; omega)).trans (h2 i hi)⟩
theorem RdN.mono {w : World} {B B' : Nat} {A : Option Addr} {l : List Nat} (h : RdN w B A l) (hB : B ≤ B') : RdN w B' A l := by
 obtain ⟨b, h1, h2⟩ := h
 exact ⟨b, fun h0 => ⟨(h1 h0).1, by have := (h1 h0).2; omega⟩, h2⟩
theorem rdN_own {w : World} {base n cap : Nat} {A : Option Addr} {l : List Nat} (h : w.ownsRow base 3 1 (.slice A n cap) n (natV l)) : RdN w w.heap.size A l := by
 have hl : l.length = n := by have := h.1; rw [natV_length] at this; omega
 rcases h.2 with ⟨q, h0⟩ | ⟨g, cap', cur, q, hb, hg, _⟩
 ·have h00 : n = 0 := h0
  exact ⟨0, fun h1 => by omega, fun i hi => by omega⟩
 ·injection q with q1 _ q3
  subst q1; subst q3
  refine ⟨g, fun _ => ⟨rfl, (World.ownsRow.lt h g rfl).2⟩, fun i hi => ?_⟩
  exact (World.ownsRow.cellAt h i (by omega)).trans (natV_at (List.getElem?_eq_getElem hi))
def RdL (w : World) (B : Nat) (A : Option Addr) (m : Nat) (ls : Nat → List Nat) : Prop :=
 ∃ b, (0 < m → A = some ⟨b, 0, none⟩ ∧ b < B) ∧ ∀ k, k < m → ∃ s c, w.cell? ⟨b, k, none⟩ = some (.slice s (ls k).length c) ∧ RdN w B s (ls k)
theorem RdL.below {w w' : World} {B B' : Nat} {A : Option Addr} {m : Nat} {ls : Nat → List Nat} (h : RdL w B A m ls) (hb : Below B' w w') (hB : B ≤ B') : RdL w' B A m ls := by
 obtain ⟨b, h1, h2⟩ := h
 refine ⟨b, h1, fun k hk => ?_⟩
 obtain ⟨s, c, e, r⟩ := h2 k hk
 exact ⟨s, c, (hb.cell (p := ⟨b, k, none⟩) (by show b < _; have := (h1 (by omega)).2; omega)).trans e, r.below hb hB⟩
theorem RdL.mono {w : World} {B B' : Nat} {A : Option Addr} {m : Nat} {ls : Nat → List Nat} (h : RdL w B A m ls) (hB : B ≤ B') : RdL w B' A m ls := by
 obtain ⟨b, h1, h2⟩ := h
 refine ⟨b, fun h0 => ⟨(h1 h0).1, by have := (h1 h0).2; omega⟩, fun k hk => ?_⟩
 obtain ⟨s, c, e, r⟩ := h2 k hk
 exact ⟨s, c, e, r.mono hB⟩
end Go.Proofs.YtmajllgfmclcoaaGreatDoor.Wg
